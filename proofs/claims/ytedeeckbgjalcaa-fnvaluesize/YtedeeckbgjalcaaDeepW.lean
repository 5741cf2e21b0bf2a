
/-
  DERIVED. THE WALK OF impl.ValueDeep.
-/
import Derived.Test.YtedeeckbgjalcaaDeepL
import Derived.Test.YtedeeckbgjalcaaVSz
import Derived.Deep.LoopGhost
namespace Go.Proofs.Ytedeeckbgjalcaa
open Go.RowKit
set_option linter.unusedVariables false
set_option linter.unusedSimpArgs false

/-- What is left to be done. -/
def leftF (sz : Vl → Nat) (f : Fr) : Nat := sumL sz (f.l.drop f.pos) + 1
def lefts (sz : Vl → Nat) : List Fr → Nat
  | [] => 0
  | f :: r => leftF sz f + lefts sz r
theorem left_step {sz : Vl → Nat} (hs : IsSz sz) {f : Fr} (h : f.pos < f.l.length) (d : Nat) (v : Value) : leftF sz ⟨f.l, v, f.pos + 1, d⟩ + sumL sz f.l[f.pos].list + 2 = leftF sz f := by
  unfold leftF
  rw [List.drop_eq_getElem_cons h]
  simp only [sumL]
  rw [hs f.l[f.pos]]
  omega

theorem PIn.mono {w : World} {B B' : Nat} (hB : B ≤ B') : ∀ (k : Nat) (l : List Vl) (v : Value), PIn w B k l v → PIn w B' k l v
  | 0, _, _, h => h
  | k + 1, l, v, h => by
    rcases h with h | ⟨b, off, c, h1, h2, h3, h4, h5⟩
    · exact Or.inl h
    · refine Or.inr ⟨b, off, c, h1, by omega, h3, h4, fun i hi => ?_⟩
      obtain ⟨vl, d1, d2⟩ := h5 i hi
      exact ⟨vl, d1, PIn.mono hB k _ _ d2⟩

theorem ret_intD {k : IntKind} {a b : Int} (h : a = b) : Ending.returned (.int k a) = .returned (.int k b) := by rw [h]

/-- All that is known while it goes on. -/
structure Going (dep sz : Vl → Nat) (t : Vl) (w wr : World) (k : Nat) (f : Fr) (r : List Fr) (km : List (Addr × Nat × Int)) (g cap rm : Nat) : Prop where
  mem : DMem wr (w.heap.size + 2) (w.heap.size + 1 + 1 + 1 + 1) g cap rm (r.reverse ++ [f]) km
  st : St dep t wr (w.heap.size + 2) f r km
  below : Below w.heap.size w wr
  left : lefts sz (f :: r) = k

theorem five_at (w : World) (o0 o1 o2 o3 o4 : Obj) : ((((((w.alloc o0).alloc o1).alloc o2).alloc o3).alloc o4).heap[w.heap.size + 1]? = some o1) ∧ ((((((w.alloc o0).alloc o1).alloc o2).alloc o3).alloc o4).heap[w.heap.size + 1 + 1]? = some o2) ∧ ((((((w.alloc o0).alloc o1).alloc o2).alloc o3).alloc o4).heap[w.heap.size + 1 + 1 + 1]? = some o3) ∧ ((((((w.alloc o0).alloc o1).alloc o2).alloc o3).alloc o4).heap[w.heap.size + 1 + 1 + 1 + 1]? = some o4) := by
  have ha : ∀ (w : World) (o : Obj), (w.alloc o).heap[w.heap.size]? = some o := fun w o => by
    show (w.heap.push o)[w.heap.size]? = _
    simp
  have h1 := ha (w.alloc o0) o1
  have h2 := ha ((w.alloc o0).alloc o1) o2
  have h3 := ha (((w.alloc o0).alloc o1).alloc o2) o3
  have h4 := ha ((((w.alloc o0).alloc o1).alloc o2).alloc o3) o4
  rw [show (w.alloc o0).heap.size = w.heap.size + 1 by simp] at h1
  rw [show ((w.alloc o0).alloc o1).heap.size = w.heap.size + 1 + 1 by simp] at h2
  rw [show (((w.alloc o0).alloc o1).alloc o2).heap.size = w.heap.size + 1 + 1 + 1 by simp] at h3
  rw [show ((((w.alloc o0).alloc o1).alloc o2).alloc o3).heap.size = w.heap.size + 1 + 1 + 1 + 1 by simp] at h4
  refine ⟨?_, ?_, ?_, h4⟩
  · rw [Below.heap_alloc _ _ _ (by simp <;> omega), Below.heap_alloc _ _ _ (by simp <;> omega), Below.heap_alloc _ _ _ (by simp <;> omega)]; exact h1
  · rw [Below.heap_alloc _ _ _ (by simp <;> omega), Below.heap_alloc _ _ _ (by simp <;> omega)]; exact h2
  · rw [Below.heap_alloc _ _ _ (by simp <;> omega)]; exact h3

theorem going_start {dep sz : Vl → Nat} {t : Vl} {w W0 : World} {k : Nat} {x0 x1 x2 vn : Value} {p : Option Addr} {n : Nat} {e0 : TypeId} {o0 : Obj} (hP : PIn w w.heap.size k t.list (.slice p t.list.length n))
    (hW0 : W0 = ((((w.alloc o0).alloc (Obj.cells #[x0, x1, x2, .slice p t.list.length n, vn] 26)).alloc (Obj.cells #[.slice (some ⟨w.heap.size + 1, 0, none⟩) 1 1, .int .i64 0, .int .i64 0] 81)).alloc (Obj.map #[] 0)).alloc (Obj.cells #[.func (.func 26) #[] #[], .slice (some ⟨w.heap.size + 1 + 1, 0, none⟩) 1 1, .map (some (w.heap.size + 1 + 1 + 1))] 85)) :
    Going dep sz t w W0 (lefts sz [⟨[t], .slice (some ⟨w.heap.size + 1, 0, none⟩) 1 1, 0, 0⟩]) ⟨[t], .slice (some ⟨w.heap.size + 1, 0, none⟩) 1 1, 0, 0⟩ [] [] (w.heap.size + 1 + 1) 1 (w.heap.size + 1 + 1 + 1) := by
  have h5 := five_at w o0 (Obj.cells #[x0, x1, x2, .slice p t.list.length n, vn] 26) (Obj.cells #[.slice (some ⟨w.heap.size + 1, 0, none⟩) 1 1, .int .i64 0, .int .i64 0] 81) (Obj.map #[] 0) (Obj.cells #[.func (.func 26) #[] #[], .slice (some ⟨w.heap.size + 1 + 1, 0, none⟩) 1 1, .map (some (w.heap.size + 1 + 1 + 1))] 85)
  rw [← hW0] at h5
  obtain ⟨h1, h2, h3, h4⟩ := h5
  have hbel : Below w.heap.size w W0 := by
    rw [hW0]
    exact (((((Below.refl _ _).alloc (Nat.le_refl _) _).alloc (by simp) _).alloc (by simp <;> omega) _).alloc (by simp <;> omega) _).alloc (by simp <;> omega) _
  have hs0 : W0.heap.size = w.heap.size + 5 := by rw [hW0]; simp
  refine ⟨⟨h4, ⟨rfl, Or.inr ⟨w.heap.size + 1 + 1, 1, _, rfl, by omega, h2, Nat.le_refl _, by unfold maxLen; omega, rfl, rfl⟩⟩, ⟨#[], 0, h3, trivial⟩, by omega, by omega, by omega, by omega⟩, ?_, hbel, rfl⟩
  refine ⟨Nat.zero_le _, by simp [maxL], trivial, rfl, fun h hm => ?_, fun e he => by simp at he, fun a n hk => absurd rfl hk⟩
  simp only [List.mem_cons, List.not_mem_nil, or_false] at hm
  subst hm
  refine ⟨by simp, k + 1, Or.inr ⟨w.heap.size + 1, 0, 1, rfl, by omega, ⟨_, _, h1⟩, by simp, fun i hi => ?_⟩⟩
  obtain rfl : i = 0 := by simpa using hi
  refine ⟨.slice p t.list.length n, ?_, PIn.mono (by omega) k _ _ (PIn.keep hbel k _ _ hP)⟩
  have hO : Owns W0 (w.heap.size + 1) #[x0, x1, x2, .slice p t.list.length n, vn] 26 := h1
  rw [hO.cell]; rfl

theorem Going.found {dep sz : Vl → Nat} (hd : IsDep dep) (hsz : IsSz sz) {t : Vl} {w wr W' : World} {k : Nat} {f : Fr} {r : List Fr} {km : List (Addr × Nat × Int)} {g cap rm d : Nat} (h : Going dep sz t w wr k f r km g cap rm) (hlt : f.pos < f.l.length) (hdd : d = maxL dep f.l[f.pos].list)
    (hM : DMem W' (w.heap.size + 2) (w.heap.size + 1 + 1 + 1 + 1) g cap rm (r.reverse ++ [⟨f.l, f.v, f.pos + 1, max f.deep (d + 1)⟩]) km) (hB : Below (w.heap.size + 2) wr W') :
    ∃ k' f', k' < k ∧ Going dep sz t w W' k' f' r km g cap rm := by
  subst hdd
  refine ⟨lefts sz (⟨f.l, f.v, f.pos + 1, max f.deep (maxL dep f.l[f.pos].list + 1)⟩ :: r), _, ?_, hM, (h.st.found hd hlt).keep hB, h.below.trans (hB.mono (by omega)), rfl⟩
  have h1 := h.left
  have h2 := left_step hsz hlt (max f.deep (maxL dep f.l[f.pos].list + 1)) f.v
  simp only [lefts] at h1 ⊢
  omega
theorem Going.push {dep sz : Vl → Nat} (hsz : IsSz sz) {t : Vl} {w wr W' : World} {k : Nat} {f : Fr} {r : List Fr} {km : List (Addr × Nat × Int)} {g cap rm g' cap' m c : Nat} {a : Addr} (h : Going dep sz t w wr k f r km g cap rm) (hlt : f.pos < f.l.length) (hw : PIn wr (w.heap.size + 2) m f.l[f.pos].list (.slice (some a) f.l[f.pos].list.length c)) (hne : f.l[f.pos].list ≠ []) (hab : a.block < w.heap.size + 2) (ha : Plain wr a)
    (hM : DMem W' (w.heap.size + 2) (w.heap.size + 1 + 1 + 1 + 1) g' cap' rm (r.reverse ++ [⟨f.l, f.v, f.pos + 1, f.deep⟩] ++ [⟨f.l[f.pos].list, .slice (some a) f.l[f.pos].list.length c, 0, 0⟩]) (updK km a f.l[f.pos].list.length (-1))) (hB : Below (w.heap.size + 2) wr W') :
    ∃ k' f' r' km', k' < k ∧ Going dep sz t w W' k' f' r' km' g' cap' rm := by
  refine ⟨lefts sz (⟨f.l[f.pos].list, .slice (some a) f.l[f.pos].list.length c, 0, 0⟩ :: ⟨f.l, f.v, f.pos + 1, f.deep⟩ :: r), _, _, _, ?_, ?_, (h.st.push hlt hw hne hab ha).keep hB, h.below.trans (hB.mono (by omega)), rfl⟩
  · have h1 := h.left
    have h2 := left_step hsz hlt f.deep f.v
    simp only [lefts] at h1 ⊢
    have h3 : leftF sz ⟨f.l[f.pos].list, .slice (some a) f.l[f.pos].list.length c, 0, 0⟩ = sumL sz f.l[f.pos].list + 1 := by simp [leftF]
    omega
  · rw [List.reverse_cons]; exact hM
theorem Going.pop {dep sz : Vl → Nat} (hd : IsDep dep) {t : Vl} {w wr W' : World} {k : Nat} {f gf : Fr} {r : List Fr} {km : List (Addr × Nat × Int)} {g cap rm c : Nat} {a : Addr} (h : Going dep sz t w wr k f (gf :: r) km g cap rm) (hp : f.pos = f.l.length) (hv : f.v = .slice (some a) f.l.length c) (hab : a.block < w.heap.size + 2) (ha : Plain wr a)
    (hM : DMem W' (w.heap.size + 2) (w.heap.size + 1 + 1 + 1 + 1) g cap rm (r.reverse ++ [⟨gf.l, gf.v, gf.pos, max gf.deep (f.deep + 1)⟩]) (updK km a f.l.length (f.deep : Int))) (hB : Below (w.heap.size + 2) wr W') :
    ∃ k' f' km', k' < k ∧ Going dep sz t w W' k' f' r km' g cap rm := by
  refine ⟨lefts sz (⟨gf.l, gf.v, gf.pos, max gf.deep (f.deep + 1)⟩ :: r), _, _, ?_, hM, (h.st.pop hd hp hv hab ha).keep hB, h.below.trans (hB.mono (by omega)), rfl⟩
  have h1 := h.left
  simp only [lefts, leftF] at h1 ⊢
  omega

set_option maxHeartbeats 4000000 in
theorem measured_any (dep sz : Vl → Nat) (hd : IsDep dep) (hsz : IsSz sz) (t : Vl) (x0 x1 x2 vl vn : Value) (k : Nat) (w : World) (hP : PIn w w.heap.size k t.list vl) (hdt : dep t ≤ 2000000) (hx : ∃ p n p' n', vl = .slice p t.list.length n ∧ vn = .slice p' t.names.length n') (hx0 : x0 = .int .i64 t.kind) (hx1 : x1 = .int .i64 t.num) (hx2 : x2 = .string t.text) :
    Calls Try.prog 25 #[.agg #[x0, x1, x2, vl, vn], .func (.func 26) #[] #[]] w fun e w' => e = .returned (.int .i64 (dep t : Int)) ∧ Below w.heap.size w w' := by
  obtain ⟨p, n, p', n', rfl, rfl⟩ := hx
  subst hx0 hx1 hx2
  have hmm := @run_makeMap Try.prog
  have hsf : ∀ (W : World) (a : Addr), (store a (.func (.func 26) #[] #[]) .plain).run Try.prog W = stored Try.prog W a (.func (.func 26) #[] #[]) .plain := fun W a => run_store Try.prog W a _ _ rfl
  have HP : Hid _ := hP
  clear hP
  go_enter Try.func25, Try.ntmps25
  go_wp2_with fail
  clear hmm hsf
  obtain ⟨W0, hW0⟩ : ∃ W0, W0 = ((((w.alloc (Obj.cells #[.int .i64 t.kind, .int .i64 t.num, .string t.text, .slice p t.list.length n, .slice p' t.names.length n'] 26)).alloc (Obj.cells #[.int .i64 t.kind, .int .i64 t.num, .string t.text, .slice p t.list.length n, .slice p' t.names.length n'] 26)).alloc (Obj.cells #[.slice (some ⟨w.heap.size + 1, 0, none⟩) 1 1, .int .i64 0, .int .i64 0] 81)).alloc (Obj.map #[] 0)).alloc (Obj.cells #[.func (.func 26) #[] #[], .slice (some ⟨w.heap.size + 1 + 1, 0, none⟩) 1 1, .map (some (w.heap.size + 1 + 1 + 1))] 85) := ⟨_, rfl⟩
  rw [← hW0]
  have HG0 : Hid (Going dep sz t w W0 (lefts sz [⟨[t], .slice (some ⟨w.heap.size + 1, 0, none⟩) 1 1, 0, 0⟩]) ⟨[t], .slice (some ⟨w.heap.size + 1, 0, none⟩) 1 1, 0, 0⟩ [] [] (w.heap.size + 1 + 1) 1 (w.heap.size + 1 + 1 + 1)) := going_start (e0 := 0) HP.out hW0
  clear hW0
  go_loopg [6] (lefts sz [⟨[t], .slice (some ⟨w.heap.size + 1, 0, none⟩) 1 1, 0, 0⟩]) (fun k p wr => ∃ f r km g cap rm, Hid (Going dep sz t w wr k f r km g cap rm))
  case atStart => exact ⟨_, _, _, _, _, _, HG0⟩
  case round =>
    obtain ⟨f, r, km, g, cap, rm, HG⟩ := hrel
    have hmem := HG.out.mem
    have hst := HG.out.st
    have hNr : r.reverse.length = r.length := List.length_reverse
    obtain ⟨hfne, kf, hPf⟩ := hst.frames f List.mem_cons_self
    obtain ⟨b, off, c, m, hfv, hbB, hpl, hlen80, hels⟩ := hPf.at hfne
    have hcnt := hst.chain.count hd
    rw [hst.bot] at hcnt
    have hbt : maxL dep [t] = dep t := by simp [maxL]
    have hN : r.length ≤ 2000000 := by omega
    have hNi : (r.length : Int) ≤ 2000000 := by omega
    have hfd : f.deep ≤ 2000000 := by have h1 := hst.deep; have h2 := maxL_take_le dep f.l f.pos; omega
    have hfdi : (f.deep : Int) ≤ 2000000 := by omega
    have hli : (f.l.length : Int) ≤ 140737488351232 := by omega
    have b0 : wr.cell? ⟨w.heap.size + 1 + 1 + 1 + 1, 1, none⟩ = some (.slice (some ⟨g, 0, none⟩) (r.length + 1) cap) := by rw [hmem.box.cell]; simp
    have c0 : wr.cell? ⟨g, r.length * 3, none⟩ = some (.slice (some ⟨b, off, none⟩) f.l.length c) := by
      have h1 := hmem.row.cellAt (r.length * 3) (by simp <;> omega)
      have h2 := flat_at r.reverse f 0
      rw [hNr, Nat.add_zero] at h2
      rw [h1, h2]; show some f.v = _; rw [hfv]
    have c1 : wr.cell? ⟨g, r.length * 3 + 1, none⟩ = some (.int .i64 (f.pos : Int)) := by
      have h1 := hmem.row.cellAt (r.length * 3 + 1) (by simp <;> omega)
      have h2 := flat_at r.reverse f 1
      rw [hNr] at h2
      rw [h1, h2]; rfl
    have c2 : wr.cell? ⟨g, r.length * 3 + 2, none⟩ = some (.int .i64 (f.deep : Int)) := by
      have h1 := hmem.row.cellAt (r.length * 3 + 2) (by simp <;> omega)
      have h2 := flat_at r.reverse f 2
      rw [hNr] at h2
      rw [h1, h2]; rfl
    have z1 : wr.frozen? ⟨g, r.length * 3 + 1, none⟩ = false := hmem.row.frozenAt _
    have hpos := hst.pos
    have hposi : (f.pos : Int) ≤ 140737488351232 := by omega
    have hn1 : (r.length : Int) < (r.length : Int) + 1 := by omega
    by_cases hlt : f.pos < f.l.length
    · have hlti : (f.pos : Int) < (f.l.length : Int) := by omega
      obtain ⟨vl, e3, hPl⟩ := hels f.pos hlt
      obtain ⟨ea, ec, rfl⟩ := hPl.slice
      have HPL : Hid (PIn wr (w.heap.size + 2) m f.l[f.pos].list (.slice ea f.l[f.pos].list.length ec)) := hPl
      have HST : Hid _ := hst
      have HMEM : Hid _ := hmem
      have hd1 : maxL dep f.l[f.pos].list ≤ 2000000 := by
        have h1 := maxL_mem (d := dep) (List.getElem_mem hlt)
        rw [hd] at h1
        omega
      have HD1 : Hid (maxL dep f.l[f.pos].list ≤ 2000000) := hd1
      clear hels hPl hst hmem hd1 hPf hpl
      go_wp2_with fail
      go_quiet (fail)
      rename Nat => nq0
      go_wp2_with fail
      go_quiet (fail)
      rename Nat => nq1
      go_wp2_with fail
      obtain ⟨WX, hWX⟩ : ∃ WX, WX = (wr.drewN (nq0 + nq1)).setCell ⟨g, r.length * 3 + 1, none⟩ (.int .i64 ((f.pos : Int) + 1)) := ⟨_, rfl⟩
      rw [← hWX]
      have hMX : DMem WX (w.heap.size + 2) (w.heap.size + 1 + 1 + 1 + 1) g cap rm (r.reverse ++ [⟨f.l, f.v, f.pos + 1, f.deep⟩]) km := by
        have h := (HMEM.out.draws (nq0 + nq1)).topPos (x := (f.pos : Int) + 1) (n := f.pos + 1) (by omega)
        rw [hNr] at h
        rw [hWX]; exact h
      have hBX : Below (w.heap.size + 2) wr WX := by
        rw [hWX]; exact (Below.draws (Below.refl _ _) _).setCell HMEM.out.gB.1 _
      have HMX : Hid _ := hMX
      have HBX : Hid _ := hBX
      clear hMX hBX hWX
      by_cases hne : f.l[f.pos].list = []
      · have hl0 : f.l[f.pos].list.length = 0 := by rw [hne]; rfl
        have hm0 : Hid (0 = maxL dep f.l[f.pos].list) := by show _ = _; rw [hne]; rfl
        rw [hl0]
        refine (enter_empty WX _ _ g cap rm r.reverse ⟨f.l, f.v, f.pos + 1, f.deep⟩ km ea ec HMX.out (by omega) (by show f.deep ≤ _; omega)).mono ?_
        rintro e W1 ⟨rfl, hM1, hB1⟩
        obtain ⟨k', f', hk', hG'⟩ := HG.out.found hd hsz hlt hm0.out hM1 (HBX.out.trans hB1)
        have HG' : Hid _ := hG'
        clear hM1 hB1 hG'
        go_wp2_with fail
        go_roundg k'
        case rel => exact ⟨_, _, _, _, _, _, HG'⟩
        case measure => exact hk'
      · obtain ⟨b', off', c', m', hv', hbB', hpl', hlen80', _⟩ := HPL.out.at hne
        simp only [Value.slice.injEq, true_and] at hv'
        obtain ⟨rfl, rfl⟩ := hv'
        have hl1 : 1 ≤ f.l[f.pos].list.length := List.length_pos_iff.2 hne
        have hplX : Plain WX ⟨b', off', none⟩ := hpl'.below HBX.out hbB'
        have hkmX : ∀ e ∈ km, e.1.block < w.heap.size + 2 ∧ Plain WX e.1 := fun e he => ⟨(St.plain HST.out e he).1, (St.plain HST.out e he).2.below HBX.out (St.plain HST.out e he).1⟩
        by_cases hkn : knownK km ⟨b', off', none⟩ f.l[f.pos].list.length = 0
        · refine (enter_new WX _ _ g cap rm r.reverse ⟨f.l, f.v, f.pos + 1, f.deep⟩ km b' off' f.l[f.pos].list.length ec f.l[f.pos].list HMX.out (by omega) (by show f.deep ≤ _; omega) hl1 (by omega) hplX hbB' hkmX hkn).mono ?_
          rintro e W1 ⟨rfl, ⟨g', cap', hM1⟩, hB1⟩
          obtain ⟨k', f', r', km', hk', hG'⟩ := HG.out.push hsz hlt HPL.out hne hbB' hpl' hM1 (HBX.out.trans hB1)
          have HG' : Hid _ := hG'
          clear hM1 hB1 hG' hkn hkmX hplX
          go_wp2_with fail
          go_roundg k'
          case rel => exact ⟨_, _, _, _, _, _, HG'⟩
          case measure => exact hk'
        · have hkd := St.within hd HST.out hlt HPL.out hne hkn
          have hm1 : 1 ≤ maxL dep f.l[f.pos].list := by
            have h1 := maxL_mem (d := dep) (List.getElem_mem (l := f.l[f.pos].list) (n := 0) (by omega))
            rw [hd] at h1
            omega
          refine (enter_known WX _ _ g cap rm r.reverse ⟨f.l, f.v, f.pos + 1, f.deep⟩ km b' off' f.l[f.pos].list.length ec (maxL dep f.l[f.pos].list) HMX.out (by omega) (by show f.deep ≤ _; omega) hl1 (by omega) hplX hbB' hkmX hkd hm1 (by have := HD1.out; omega)).mono ?_
          rintro e W1 ⟨rfl, hM1, hB1⟩
          obtain ⟨k', f', hk', hG'⟩ := HG.out.found hd hsz hlt rfl hM1 (HBX.out.trans hB1)
          have HG' : Hid _ := hG'
          clear hM1 hB1 hG' hkn hkmX hplX hkd hm1
          go_wp2_with fail
          go_roundg k'
          case rel => exact ⟨_, _, _, _, _, _, HG'⟩
          case measure => exact hk'
    · have hlti : ¬ (f.pos : Int) < (f.l.length : Int) := by omega
      have hpe : f.pos = f.l.length := by omega
      cases r with
      | nil =>
        have hfin : Hid (f.deep = dep t) := by
          have h1 := hst.deep
          have h2 : f.l = [t] := hst.bot
          show _ = _
          rw [h1, hpe, List.take_length, h2, hbt]
        have hr0 : (([] : List Fr).length : Int) = 0 := rfl
        clear hels hst hmem hPf hpl
        simp only [List.length_nil, Nat.zero_mul, Nat.zero_add] at b0 c0 c1 c2 z1
        go_wp2_with fail
        go_quiet (fail)
        go_wp2_with fail
        go_ret
        exact ⟨ret_intD (by rw [hfin.out]), Below.draws HG.out.below _⟩
      | cons gf r =>
        have HST : Hid _ := hst
        have HMEM : Hid _ := hmem
        have HPL : Hid (Plain wr ⟨b, off, none⟩) := hpl
        have hre : (((gf :: r).length : Int) + 1 == 1) = false := by simp <;> omega
        have HFV : Hid (f.v = .slice (some ⟨b, off, none⟩) f.l.length c) := hfv
        have HPE : Hid (f.pos = f.l.length) := hpe
        have HBT : Hid (maxL dep [t] = dep t) := hbt
        clear hfv hpe hbt
        obtain ⟨N, hN'⟩ : ∃ N, (gf :: r).length = N := ⟨_, rfl⟩
        rw [hN'] at b0 c0 c1 c2 z1 hN hNi hn1 hcnt hre hNr
        have HN' : Hid ((gf :: r).length = N) := hN'
        clear hN'
        have hgd : gf.deep ≤ 2000000 := by
          obtain ⟨_, h4, _⟩ := hst.chain
          have h1 := maxL_take_le dep gf.l (gf.pos - 1)
          have h2 := Chain.count hd hst.chain.2.2
          have h3 := hst.bot
          simp only [bot] at h3
          rw [h3] at h2
          have h5 := HBT.out
          omega
        clear hels hst hmem hPf hpl
        go_wp2_with fail
        go_quiet (fail)
        rename Nat => nq0
        go_wp2_with fail
        have hM0 : DMem (wr.drewN nq0) (w.heap.size + 2) (w.heap.size + 1 + 1 + 1 + 1) g cap rm (r.reverse ++ [gf] ++ [f]) km := by
          have h := HMEM.out.draws nq0
          rw [List.reverse_cons] at h
          exact h
        refine (leave_any (wr.drewN nq0) _ _ g cap rm r.reverse gf f km b off f.l.length c hM0 (by have := HN'.out; simp at this; simp; omega) (by omega) (by omega) (by omega) HFV.out (List.length_pos_iff.2 hfne) (by omega) (HPL.out.below (Below.draws (Below.refl _ _) nq0) hbB) hbB (fun e he => ⟨(St.plain HST.out e he).1, (St.plain HST.out e he).2.below (Below.draws (Below.refl _ _) nq0) (St.plain HST.out e he).1⟩)).mono ?_
        rintro e W1 ⟨rfl, hM1, hB1⟩
        obtain ⟨k', f', km', hk', hG'⟩ := HG.out.pop hd HPE.out HFV.out hbB HPL.out hM1 ((Below.draws (Below.refl _ _) nq0).trans hB1)
        have HG' : Hid _ := hG'
        clear hM1 hB1 hG' hM0
        go_wp2_with fail
        go_roundg k'
        case rel => exact ⟨_, _, _, _, _, _, HG'⟩
        case measure => exact hk'

set_option maxHeartbeats 1000000 in
theorem implDeep_any (dep sz : Vl → Nat) (hd : IsDep dep) (hsz : IsSz sz) (t : Vl) (x0 x1 x2 vl vn : Value) (k : Nat) (w : World) (hP : PIn w w.heap.size k t.list vl) (hdt : dep t ≤ 2000000) (hx : ∃ p n p' n', vl = .slice p t.list.length n ∧ vn = .slice p' t.names.length n') (hx0 : x0 = .int .i64 t.kind) (hx1 : x1 = .int .i64 t.num) (hx2 : x2 = .string t.text) :
    Calls Try.prog 13 #[.agg #[x0, x1, x2, vl, vn]] w fun e w' => e = .returned (.int .i64 (dep t : Int)) ∧ Below w.heap.size w w' := by
  have HC : Hid (∀ o, Calls Try.prog 25 #[.agg #[x0, x1, x2, vl, vn], .func (.func 26) #[] #[]] (w.alloc o) fun e w' => e = .returned (.int .i64 (dep t : Int)) ∧ Below w.heap.size w w') := fun o => by
    have hb : Below w.heap.size w (w.alloc o) := (Below.refl _ _).alloc (Nat.le_refl _) o
    refine (measured_any dep sz hd hsz t x0 x1 x2 vl vn k (w.alloc o) (PIn.mono (by simp) k _ _ (PIn.keep hb k _ _ hP)) hdt hx hx0 hx1 hx2).mono ?_
    rintro e w' ⟨rfl, h2⟩
    exact ⟨rfl, hb.trans (h2.mono (by simp))⟩
  obtain ⟨p, n, p', n', rfl, rfl⟩ := hx
  subst hx0 hx1 hx2
  clear hP
  go_enter Try.func13, Try.ntmps13
  go_wp2_with fail
  refine (HC.out _).mono ?_
  rintro e w1 ⟨rfl, hb1⟩
  have HB : Hid (Below w.heap.size w w1) := hb1
  clear hb1
  go_wp2_with fail
  go_ret
  exact ⟨rfl, HB.out⟩

end Go.Proofs.Ytedeeckbgjalcaa
