
/-
  DERIVED. THE WALK OF spec.l8MergeDo.
-/
import Derived.Test.YtdaohfeajicamaaMgP
import Derived.Test.YtdaohfeajicamaaMgO
import Derived.Test.YtdaohfeajicamaaMgT
import Derived.Test.YtdaohfeajicamaaVlCopyW
import Derived.Test.YtdaohfeajicamaaMgA
import Derived.Test.YtdaohfeajicamaaSoR
import Derived.Deep.AppendLies
import Derived.Deep.RegionLaw
import Derived.Deep.RegionHeld3
import Derived.BigRegion
namespace Go.Proofs.Ytdaohfeajicamaa
open Go.RowKit
set_option linter.unusedVariables false
set_option linter.unusedSimpArgs false

theorem info_valueM : ∃ i, Try.prog.info? 29 = some i ∧ i.zero = some (.agg #[.int .i64 0, .int .i64 0, .string ByteArray.empty, .slice none 0 0, .slice none 0 0]) ∧ i.size = 5 ∧ i.bytes = 80 := by
  have h : (Try.prog.info? 29).map (fun i => (i.zero, i.size, i.bytes)) = some (some (.agg #[.int .i64 0, .int .i64 0, .string ByteArray.empty, .slice none 0 0, .slice none 0 0]), 5, 80) := by kernel_rfl
  obtain ⟨i, h1, h2⟩ := Option.map_eq_some_iff.1 h
  simp only [Prod.mk.injEq] at h2
  exact ⟨i, h1, h2.1, h2.2.1, h2.2.2⟩
theorem info_strM : ∃ i, Try.prog.info? 9 = some i ∧ i.zero = some (.string ByteArray.empty) ∧ i.size = 1 ∧ i.bytes = 16 := by
  have h : (Try.prog.info? 9).map (fun i => (i.zero, i.size, i.bytes)) = some (some (.string ByteArray.empty), 1, 16) := by kernel_rfl
  obtain ⟨i, h1, h2⟩ := Option.map_eq_some_iff.1 h
  simp only [Prod.mk.injEq] at h2
  exact ⟨i, h1, h2.1, h2.2.1, h2.2.2⟩

theorem grown_drewM {w w' : World} {r : Option Nat} (h : w.drew.grownBy w' r) : w.grownBy w' r := ⟨h.os, h.tape, h.output, h.size, h.block⟩
/-- spec.l1Tree, told in one form. -/
theorem tree_told (k : Nat) (hk : 0 < k) {t : Vl} {s : ByteArray} {vl vn : Value} {W w0 wo : World} {C : World → Prop} (hlen : t.names.length ≤ t.list.length) (hs : s.size ≤ 140737488351232) (hC : ∀ W, Below w0.heap.size w0 W → C W) (hB : Hid (Below w0.heap.size w0 W)) (hko : Keeps 0 wo W) (hV : VlR wo 0 (k + 1) t [.int .i64 t.kind, .int .i64 t.num, .string t.text, vl, vn]) {X : Vl} {b : Bool} (hX : vlOf (treeO t s) = X) (hb : (treeO t s).isSome = b) :
    Calls Try.prog 74 #[.agg #[.int .i64 t.kind, .int .i64 t.num, .string t.text, vl, vn], .string s] W fun e w1 => ∃ (p2 : Option Addr) (n2 : Nat) (p2' : Option Addr) (n2' : Nat), e = .returned (.tuple #[.agg #[.int .i64 X.kind, .int .i64 X.num, .string X.text, .slice p2 X.list.length n2, .slice p2' X.names.length n2'], .bool b]) ∧ C w1 ∧ Hid (VlR wo 0 k X [.int .i64 X.kind, .int .i64 X.num, .string X.text, .slice p2 X.list.length n2, .slice p2' X.names.length n2']) ∧ Hid (Below w0.heap.size w0 w1) ∧ Hid (Below W.heap.size W w1) := by
  refine (l1TreeO_any k t vl vn s wo W hko hlen hs hV).mono ?_
  rintro e w1 ⟨h, hb1⟩
  have h1 : Below w0.heap.size w0 w1 := hB.out.trans (hb1.mono hB.out.size)
  subst hX hb
  cases ho : treeO t s with
  | none =>
    rw [ho] at h
    subst h
    obtain ⟨k', hk'⟩ : ∃ k', k = k' + 1 := ⟨k - 1, by omega⟩
    subst hk'
    exact ⟨none, 0, none, 0, rfl, hC _ h1, zero_read _ _ _, h1, hb1⟩
  | some x =>
    rw [ho] at h
    obtain ⟨vl', vn', rfl, hR⟩ := h
    obtain ⟨p2, n2, p2', n2', hv⟩ := hR.cells
    simp only [List.cons.injEq, true_and, and_true] at hv
    obtain ⟨rfl, rfl⟩ := hv
    exact ⟨p2, n2, p2', n2', rfl, hC _ h1, hR, h1, hb1⟩

theorem out_box {w W : World} {x0 x1 x2 x3 x4 : Value} {e : TypeId} (h : Owns W (w.heap.size + 3) #[x0, x1, x2, x3, x4] e) : W.cell? ⟨w.heap.size + 1 + 1 + 1, 0, none⟩ = some x0 ∧ W.cell? ⟨w.heap.size + 1 + 1 + 1, 1, none⟩ = some x1 ∧ W.cell? ⟨w.heap.size + 1 + 1 + 1, 2, none⟩ = some x2 ∧ W.cell? ⟨w.heap.size + 1 + 1 + 1, 3, none⟩ = some x3 ∧ W.cell? ⟨w.heap.size + 1 + 1 + 1, 4, none⟩ = some x4 := five_ofQ h.cell
theorem out_frozen {w W : World} {c : Array Value} {e : TypeId} (h : Owns W (w.heap.size + 3) c e) : ∀ o, W.frozen? ⟨w.heap.size + 1 + 1 + 1, o, none⟩ = false := fun o => h.frozen o
theorem res_box {w W : World} {x0 x1 x2 x3 x4 : Value} {e : TypeId} (h : Owns W (w.heap.size + 2) #[x0, x1, x2, x3, x4] e) : W.cell? ⟨w.heap.size + 1 + 1, 0, none⟩ = some x0 ∧ W.cell? ⟨w.heap.size + 1 + 1, 1, none⟩ = some x1 ∧ W.cell? ⟨w.heap.size + 1 + 1, 2, none⟩ = some x2 ∧ W.cell? ⟨w.heap.size + 1 + 1, 3, none⟩ = some x3 ∧ W.cell? ⟨w.heap.size + 1 + 1, 4, none⟩ = some x4 := five_ofQ h.cell
theorem res_frozen {w W : World} {c : Array Value} {e : TypeId} (h : Owns W (w.heap.size + 2) c e) : ∀ o, W.frozen? ⟨w.heap.size + 1 + 1, o, none⟩ = false := fun o => h.frozen o
/-- As it begins. -/
theorem md_start {w : World} {k : Nat} {cv cm : Array Value} : MdSt w ((((w.alloc (Obj.cells cv 29)).alloc (Obj.cells cm 29)).alloc (Obj.cells #[.int .i64 0, .int .i64 0, .string ⟨#[]⟩, .slice none 0 0, .slice none 0 0] 29)).alloc (Obj.cells #[.int .i64 5, .int .i64 0, .string ⟨#[]⟩, .slice none 0 0, .slice none 0 0] 29)) k cv cm [] [] [] none 0 none 0 := by
  have s1 : (w.alloc (Obj.cells cv 29)).heap.size = w.heap.size + 1 := by simp
  have s2 : ((w.alloc (Obj.cells cv 29)).alloc (Obj.cells cm 29)).heap.size = w.heap.size + 2 := by simp
  have s3 : (((w.alloc (Obj.cells cv 29)).alloc (Obj.cells cm 29)).alloc (Obj.cells #[.int .i64 0, .int .i64 0, .string ⟨#[]⟩, .slice none 0 0, .slice none 0 0] 29)).heap.size = w.heap.size + 3 := by simp
  have o1 := Owns.made w cv 29
  have o2 := Owns.made (w.alloc (Obj.cells cv 29)) cm 29
  have o3 := Owns.made ((w.alloc (Obj.cells cv 29)).alloc (Obj.cells cm 29)) #[.int .i64 0, .int .i64 0, .string ⟨#[]⟩, .slice none 0 0, .slice none 0 0] 29
  have o4 := Owns.made (((w.alloc (Obj.cells cv 29)).alloc (Obj.cells cm 29)).alloc (Obj.cells #[.int .i64 0, .int .i64 0, .string ⟨#[]⟩, .slice none 0 0, .slice none 0 0] 29)) #[.int .i64 5, .int .i64 0, .string ⟨#[]⟩, .slice none 0 0, .slice none 0 0] 29
  rw [s1] at o2
  rw [s2] at o3
  rw [s3] at o4
  have a1 : ∀ (W : World) (o : Obj), Below W.heap.size W (W.alloc o) := fun W o => (Below.refl _ _).alloc (Nat.le_refl _) o
  refine ⟨((o1.below (a1 _ _) (by rw [s1]; omega)).below (a1 _ _) (by rw [s2]; omega)).below (a1 _ _) (by rw [s3]; omega), (o2.below (a1 _ _) (by rw [s2]; omega)).below (a1 _ _) (by rw [s3]; omega), o3.below (a1 _ _) (by rw [s3]; omega), o4, ?_, ?_, by simp⟩
  · exact ⟨⟨rfl, Or.inl ⟨rfl, rfl⟩⟩, ⟨rfl, Or.inl ⟨rfl, rfl⟩⟩, fun i h => absurd h (Nat.not_lt_zero _)⟩
  · exact ((((Below.refl _ _).alloc (Nat.le_refl _) _).alloc (by simp) _).alloc (by simp; omega) _).alloc (by simp; omega) _

def SpecMD (k : Nat) : Prop := ∀ (v m : Vl) (vl vn ml mn : Value) (w : World), VlR w 0 k v [.int .i64 v.kind, .int .i64 v.num, .string v.text, vl, vn] → VlR w 0 k m [.int .i64 m.kind, .int .i64 m.num, .string m.text, ml, mn] → okB false k v = true → okB false k m = true →
  Calls Try.prog 53 #[.agg #[.int .i64 v.kind, .int .i64 v.num, .string v.text, vl, vn], .agg #[.int .i64 m.kind, .int .i64 m.num, .string m.text, ml, mn]] w fun e w' => ∃ (p : Option Addr) (n : Nat) (p' : Option Addr) (n' : Nat), e = .returned (.agg #[.int .i64 (mdo k v m).kind, .int .i64 (mdo k v m).num, .string (mdo k v m).text, .slice p (mdo k v m).list.length n, .slice p' (mdo k v m).names.length n']) ∧
    VlK w' w.heap.size w'.heap.size k (mdo k v m) [.int .i64 (mdo k v m).kind, .int .i64 (mdo k v m).num, .string (mdo k v m).text, .slice p (mdo k v m).list.length n, .slice p' (mdo k v m).names.length n'] ∧ Below w.heap.size w w'

set_option maxHeartbeats 16000000 in
set_option maxRecDepth 4000 in
theorem md_step (k : Nat) (ih : SpecMD k) : SpecMD (k + 1) := by
  intro v m vl vn ml mn w hv hm hov hom
  obtain ⟨va, vc, va', vc', hq⟩ := hv.cells
  simp only [List.cons.injEq, true_and, and_true] at hq
  obtain ⟨rfl, rfl⟩ := hq
  obtain ⟨ma, mc, ma', mc', hq⟩ := hm.cells
  simp only [List.cons.injEq, true_and, and_true] at hq
  obtain ⟨rfl, rfl⟩ := hq
  have HV : Hid (∀ W, Keeps 0 w W → VlR W 0 (k + 1) v [.int .i64 v.kind, .int .i64 v.num, .string v.text, .slice va v.list.length vc, .slice va' v.names.length vc']) := fun W h => VlR.keeps h _ _ _ hv
  have HM : Hid (∀ W, Keeps 0 w W → VlR W 0 (k + 1) m [.int .i64 m.kind, .int .i64 m.num, .string m.text, .slice ma m.list.length mc, .slice ma' m.names.length mc']) := fun W h => VlR.keeps h _ _ _ hm
  have HOV : Hid (okB false (k + 1) v = true) := hov
  have HOM : Hid (okB false (k + 1) m = true) := hom
  clear hv hm hov hom
  by_cases h5 : m.kind = 5
  rotate_left
  · have HE : Hid (mdo (k + 1) v m = m) := mdo_else h5
    have hne : (m.kind != 5) = true := by simp [h5]
    clear h5
    go_enter Try.func53, Try.ntmps53
    go_wp2_with fail
    refine (copy_all (k + 1) m _ _ _ (HM.out _ ((((Keeps.refl _ _).alloc _).alloc _).alloc _))).mono ?_
    rintro e w1 ⟨vl1, vn1, rfl, hI, hb1⟩
    obtain ⟨p, n, p', n', hq⟩ := (VlI.read hI).cells
    simp only [List.cons.injEq, true_and, and_true] at hq
    obtain ⟨rfl, rfl⟩ := hq
    have hO : Owns w1 (w.heap.size + 1 + 1) #[.int .i64 0, .int .i64 0, .string ⟨#[]⟩, .slice none 0 0, .slice none 0 0] 29 := by
      have h0 := Owns.made ((w.alloc (Obj.cells #[.int .i64 v.kind, .int .i64 v.num, .string v.text, .slice va v.list.length vc, .slice va' v.names.length vc'] 29)).alloc (Obj.cells #[.int .i64 m.kind, .int .i64 m.num, .string m.text, .slice ma m.list.length mc, .slice ma' m.names.length mc'] 29)) #[.int .i64 0, .int .i64 0, .string ⟨#[]⟩, .slice none 0 0, .slice none 0 0] 29
      simp at h0
      exact h0.below hb1 (by simp)
    obtain ⟨r0, r1, r2, r3, r4⟩ := five_ofQ hO.cell
    have rf := fun o => hO.frozen o
    have HB1 : Hid (Below w.heap.size w w1) := ((((Below.refl _ _).alloc (Nat.le_refl _) _).alloc (by simp) _).alloc (by simp; omega) _).trans (hb1.mono (by simp <;> omega))
    have hz1 : w.heap.size + 1 + 1 < w1.heap.size := hO.lt
    have HI : Hid (VlK w1 (w.heap.size + 3) w1.heap.size (k + 1) m [.int .i64 m.kind, .int .i64 m.num, .string m.text, .slice p m.list.length n, .slice p' m.names.length n']) := fun W hW => VlR.base (by simp) _ _ _ (VlQ.read _ _ _ (hI W (fun b h1 h2 => hW b (by simp at h1; omega) h2)))
    clear hb1 hI hO
    go_wp2_with fail
    refine bodyPost_ret (v := .agg #[.int .i64 m.kind, .int .i64 m.num, .string m.text, .slice p m.list.length n, .slice p' m.names.length n']) (by simp [results, Try.results53, go_sem, hz1, r0, r1, r2, r3, r4]; try rfl) rfl ?_
    rw [HE.out]
    refine ⟨p, n, p', n', rfl, fun W hW => VlR.base (by omega) _ _ _ (HI.out W (fun b h1 h2 => ?_)), ((((HB1.out.setCell (by simp; omega) _).setCell (by simp; omega) _).setCell (by simp; omega) _).setCell (by simp; omega) _).setCell (by simp; omega) _⟩
    rw [hW b (by omega) (by simpa [World.setCell] using h2)]
    simp only [World.setCell, Array.getElem?_modify]
    repeat rw [if_neg (by omega)]
  · have HV5 : Hid (v.kind = 5 → v.names.length = v.list.length ∧ onceB [] v.names = true) := fun h => ok_five h HOV.out
    have HM5 : Hid (m.names.length = m.list.length) := (ok_five h5 HOM.out).1
    have HKM : Hid (m.kind = 5) := h5
    have hne : (m.kind != 5) = false := by simp [h5]
    have hvl := ok_len12 HOV.out
    have hml := ok_len12 HOM.out
    have hvli : (v.list.length : Int) ≤ 12 := by omega
    have hmli : (m.list.length : Int) ≤ 12 := by omega
    have HE : Hid (mdo (k + 1) v m = treeV ((pvOf v).filter (fun p => (treeO m p.1).isNone) ++ (saysQ (prsOf m)).map (fun p => (p.1, mdo k (vlOf (treeO v p.1)) p.2)))) := by
      show _ = _
      rw [mdo_tree h5, was_pv]
    clear h5
    obtain ⟨i0, hi0, hz0, hz1, hz2⟩ := info_valueM
    obtain ⟨i1, hj0, hy0, hy1, hy2⟩ := info_strM
    go_enter Try.func53, Try.ntmps53
    go_wp2_with fail
    go_loopw [6] (fun i wr => ∃ (j : Nat) (l : List Vl) (ns : List ByteArray) (xs : List Value) (x : Option Addr) (xc : Nat) (y : Option Addr) (yc : Nat), i = .int .i64 (j : Int) ∧ j ≤ (pvOf v).length ∧ l.length ≤ j ∧ ns.length ≤ j ∧ Hid (l = (((pvOf v).take j).filter (fun p => (treeO m p.1).isNone)).map (·.2) ∧ ns = (((pvOf v).take j).filter (fun p => (treeO m p.1).isNone)).map (·.1)) ∧ Hid (∀ s ∈ ns, s.size ≤ 140737488351232) ∧ Hid (MdSt w wr k #[.int .i64 v.kind, .int .i64 v.num, .string v.text, .slice va v.list.length vc, .slice va' v.names.length vc'] #[.int .i64 m.kind, .int .i64 m.num, .string m.text, .slice ma m.list.length mc, .slice ma' m.names.length mc'] l xs ns x xc y yc)) (fun i _ => (pvOf v).length - (intOf i).toNat)
    case atStart =>
      refine ⟨0, [], [], [], none, 0, none, 0, rfl, Nat.zero_le _, Nat.zero_le _, Nat.zero_le _, ⟨rfl, rfl⟩, fun s hs => by simp at hs, ?_⟩
      exact md_start
    case round =>
      obtain ⟨j, l, ns, xs, x, xc, y, yc, rfl, hj, hlj, hnj, HLN, HNS, HST⟩ := hrel
      have HKr : Hid (Keeps 0 w wr) := Keeps.of_below HST.out.bel (Nat.le_refl _) 0
      have hszr := HST.out.sz
      obtain ⟨b0, b1, b2, b3, b4⟩ := five_ofQ HST.out.bv.cell
      by_cases hlt : j < (pvOf v).length
      · have h5v : v.kind = 5 := by
          by_cases h : v.kind = 5
          · exact h
          · unfold pvOf at hlt; rw [if_neg h] at hlt; simp at hlt
        have hpv : pvOf v = v.names.zip v.list := by unfold pvOf; rw [if_pos h5v]; rfl
        have hnl := (HV5.out h5v).1
        have hltn : j < v.names.length := by rw [hpv, List.length_zip] at hlt; omega
        have hltl : j < v.list.length := by omega
        have hltni : (j : Int) < (v.names.length : Int) := by omega
        have hltli : (j : Int) < (v.list.length : Int) := by omega
        have hv5 : (v.kind == 5) = true := by simp [h5v]
        have hpj : (pvOf v)[j] = (v.names[j], v.list[j]) := by simp [hpv]
        have HSN : Hid (((pvOf v).take (j + 1)).filter (fun p => (treeO m p.1).isNone) = ((pvOf v).take j).filter (fun p => (treeO m p.1).isNone) ++ (if (treeO m v.names[j]).isNone then [(v.names[j], v.list[j])] else [])) := by
          have h := filter_snoc hlt (fun p : Pr => (treeO m p.1).isNone)
          rw [hpj] at h
          exact h
        have hk0 : 0 < k := by
          have h1 := ok_kid HOV.out (List.getElem_mem hltl)
          cases k with
          | zero => simp [okB] at h1
          | succ k => omega
        have HOVJ : Hid (okB false k v.list[j] = true) := ok_kid HOV.out (List.getElem_mem hltl)
        obtain ⟨vl, vn, e, _, _, _, hrow, hnames⟩ := HV.out w (Keeps.refl _ _)
        simp only [List.cons.injEq, true_and, and_true] at e
        obtain ⟨rfl, rfl⟩ := e
        obtain ⟨a', c', hv', _, hr⟩ := StrRow.len hnames
        obtain ⟨nb, noff, rfl, _, hcs⟩ := hr (List.ne_nil_of_length_pos (by omega))
        simp only [Value.slice.injEq, true_and] at hv'
        obtain ⟨rfl, rfl⟩ := hv'
        obtain ⟨s0', hs0⟩ := hcs j hltn
        obtain ⟨la, lc, hlv, _, hlr⟩ := Row.len hrow
        obtain ⟨lb, loff, rfl, _, hlcs⟩ := hlr (List.ne_nil_of_length_pos (by omega))
        simp only [Value.slice.injEq, true_and] at hlv
        obtain ⟨rfl, rfl⟩ := hlv
        obtain ⟨cs, _, hlc, hlq⟩ := hlcs j hltl
        obtain ⟨q1, e1, q1', e1', rfl⟩ := hlq.cells
        have HC5 : Hid (∀ W, Below w.heap.size w W → W.cell? ⟨nb, noff + j, none⟩ = some (.string v.names[j]) ∧ W.cell? ⟨lb, loff + j * 5, none⟩ = some (.int .i64 v.list[j].kind) ∧ W.cell? ⟨lb, loff + j * 5 + 1, none⟩ = some (.int .i64 v.list[j].num) ∧ W.cell? ⟨lb, loff + j * 5 + 2, none⟩ = some (.string v.list[j].text) ∧ W.cell? ⟨lb, loff + j * 5 + 3, none⟩ = some (.slice q1 v.list[j].list.length e1) ∧ W.cell? ⟨lb, loff + j * 5 + 4, none⟩ = some (.slice q1' v.list[j].names.length e1') ∧ nb < W.heap.size ∧ lb < W.heap.size) := fun W h => by
          obtain ⟨c0, c1, c2, c3, c4⟩ := hlc.five
          have hk := h.size
          have h1 := cell_lt s0'
          have h2 := cell_lt c0
          exact ⟨cell_on h s0', cell_on h c0, cell_on h c1, cell_on h c2, cell_on h c3, cell_on h c4, by simp only at h1; omega, by simp only at h2; omega⟩
        have HNB : Hid (nb < w.heap.size ∧ lb < w.heap.size) := ⟨(HC5.out w (Below.refl _ _)).2.2.2.2.2.2.1, (HC5.out w (Below.refl _ _)).2.2.2.2.2.2.2⟩
        have HCJ : Hid (∀ W, Keeps 0 w W → VlR W 0 k v.list[j] [.int .i64 v.list[j].kind, .int .i64 v.list[j].num, .string v.list[j].text, .slice q1 v.list[j].list.length e1, .slice q1' v.list[j].names.length e1']) := fun W h => VlR.keeps h _ _ _ hlq
        obtain ⟨s0, _, _, _, _, _, hsn, _⟩ := HC5.out wr HST.out.bel
        obtain ⟨m0, m1, m2, m3, m4⟩ := five_ofQ HST.out.bm.cell
        obtain ⟨X, hX⟩ : ∃ X, vlOf (treeO m v.names[j]) = X := ⟨_, rfl⟩
        obtain ⟨bq, hbq⟩ : ∃ bq, (treeO m v.names[j]).isSome = bq := ⟨_, rfl⟩
        have HBQ : Hid ((treeO m v.names[j]).isSome = bq) := hbq
        have HS0 : Hid (v.names[j].size ≤ 140737488351232) := hs0
        have HLT : Hid (∀ W, Hid (Below wr.heap.size wr W) → Calls Try.prog 74 #[.agg #[.int .i64 m.kind, .int .i64 m.num, .string m.text, .slice ma m.list.length mc, .slice ma' m.names.length mc'], .string v.names[j]] W fun e w1 => ∃ (p2 : Option Addr) (n2 : Nat) (p2' : Option Addr) (n2' : Nat), e = .returned (.tuple #[.agg #[.int .i64 X.kind, .int .i64 X.num, .string X.text, .slice p2 X.list.length n2, .slice p2' X.names.length n2'], .bool bq]) ∧ ((w1.cell? ⟨w.heap.size + 1, 0, none⟩ = some (.int .i64 m.kind) ∧ w1.cell? ⟨w.heap.size + 1, 1, none⟩ = some (.int .i64 m.num) ∧ w1.cell? ⟨w.heap.size + 1, 2, none⟩ = some (.string m.text) ∧ w1.cell? ⟨w.heap.size + 1, 3, none⟩ = some (.slice ma m.list.length mc) ∧ w1.cell? ⟨w.heap.size + 1, 4, none⟩ = some (.slice ma' m.names.length mc')) ∧ w1.cell? ⟨w.heap.size, 4, none⟩ = some (.slice (some ⟨nb, noff, none⟩) v.names.length vc') ∧ w1.cell? ⟨nb, noff + j, none⟩ = some (.string v.names[j])) ∧ Hid (VlR w 0 k X [.int .i64 X.kind, .int .i64 X.num, .string X.text, .slice p2 X.list.length n2, .slice p2' X.names.length n2']) ∧ Hid (Below wr.heap.size wr w1) ∧ Hid (Below W.heap.size W w1)) := fun W hB => tree_told (w0 := wr) (wo := w) (C := fun W => (W.cell? ⟨w.heap.size + 1, 0, none⟩ = some (.int .i64 m.kind) ∧ W.cell? ⟨w.heap.size + 1, 1, none⟩ = some (.int .i64 m.num) ∧ W.cell? ⟨w.heap.size + 1, 2, none⟩ = some (.string m.text) ∧ W.cell? ⟨w.heap.size + 1, 3, none⟩ = some (.slice ma m.list.length mc) ∧ W.cell? ⟨w.heap.size + 1, 4, none⟩ = some (.slice ma' m.names.length mc')) ∧ W.cell? ⟨w.heap.size, 4, none⟩ = some (.slice (some ⟨nb, noff, none⟩) v.names.length vc') ∧ W.cell? ⟨nb, noff + j, none⟩ = some (.string v.names[j])) k hk0 (by rw [HM5.out]; exact Nat.le_refl _) hs0 (fun W h => ⟨⟨cell_on h m0, cell_on h m1, cell_on h m2, cell_on h m3, cell_on h m4⟩, cell_on h b4, cell_on h s0⟩) hB (HKr.out.trans (Keeps.of_below hB.out (Nat.le_refl _) 0)) (HM.out w (Keeps.refl _ _)) hX hbq
        have HBd : Hid (Below wr.heap.size wr wr.drew) := (Below.refl _ wr).drew
        have HBz : Hid (Below wr.heap.size wr (wr.alloc (Obj.cells #[.int .i64 0, .int .i64 0, .string ⟨#[]⟩, .slice none 0 0, .slice none 0 0] 29)).drew) := ((Below.refl _ wr).alloc (Nat.le_refl _) _).drew
        have hmne : w.heap.size + 1 ≠ wr.heap.size := by omega
        have hvne : w.heap.size ≠ wr.heap.size := by omega
        have hnne : nb ≠ wr.heap.size := Nat.ne_of_lt hsn
        clear hrow hnames hr hcs hlr hlcs hlc hlq hs0 s0' hpj hpv hnl h5v hX hbq
        go_wp2_with fail
        go_region_held3 (fun w' => (w'.cell? ⟨w.heap.size + 1, 0, none⟩ = some (.int .i64 m.kind) ∧ w'.cell? ⟨w.heap.size + 1, 1, none⟩ = some (.int .i64 m.num) ∧ w'.cell? ⟨w.heap.size + 1, 2, none⟩ = some (.string m.text) ∧ w'.cell? ⟨w.heap.size + 1, 3, none⟩ = some (.slice ma m.list.length mc) ∧ w'.cell? ⟨w.heap.size + 1, 4, none⟩ = some (.slice ma' m.names.length mc')) ∧ w'.cell? ⟨w.heap.size, 4, none⟩ = some (.slice (some ⟨nb, noff, none⟩) v.names.length vc') ∧ w'.cell? ⟨nb, noff + j, none⟩ = some (.string v.names[j])) (first | go_keep | exact ⟨⟨far5Q (by first | exact hmne | exact Nat.ne_of_lt (cell_lt m0)) m0, far5Q (by first | exact hmne | exact Nat.ne_of_lt (cell_lt m1)) m1, far5Q (by first | exact hmne | exact Nat.ne_of_lt (cell_lt m2)) m2, far5Q (by first | exact hmne | exact Nat.ne_of_lt (cell_lt m3)) m3, far5Q (by first | exact hmne | exact Nat.ne_of_lt (cell_lt m4)) m4⟩, far5Q (by first | exact hvne | exact Nat.ne_of_lt (cell_lt b4)) b4, far5Q (by first | exact hnne | exact Nat.ne_of_lt (cell_lt s0)) s0⟩) ((go_at_call 74; refine (Hid.out HLT _ (by first | exact HBd | exact HBz)).mono ?_; (try clear m0 m1 m2 m3 m4 b4 s0); rintro e wT ⟨p2, n2, p2', n2', rfl, ⟨⟨m0, m1, m2, m3, m4⟩, b4, s0⟩, HRT, HBT, HBT2⟩; (try (have HZ := newbox_keptQ HBT2; obtain ⟨⟨z0, z1, z2, z3, z4⟩, zf, zn⟩ := HZ))))
        rotate_left
        · obtain ⟨WN, hWN⟩ : ∃ WN, WN = (((((wT.setCell ⟨wr.heap.size, 0, none⟩ (.int .i64 X.kind)).setCell ⟨wr.heap.size, 1, none⟩ (.int .i64 X.num)).setCell ⟨wr.heap.size, 2, none⟩ (.string X.text)).setCell ⟨wr.heap.size, 3, none⟩ (.slice p2 X.list.length n2)).setCell ⟨wr.heap.size, 4, none⟩ (.slice p2' X.names.length n2')) := ⟨_, rfl⟩
          rw [← hWN]
          have HBN : Hid (Below wr.heap.size wr WN) := by rw [hWN]; exact below5Q (Nat.le_refl _) HBT.out
          clear hWN HBT HBT2 HRT z0 z1 z2 z3 z4 zf zn
          have HS1 : Hid (MdSt w WN k #[.int .i64 v.kind, .int .i64 v.num, .string v.text, .slice (some ⟨lb, loff, none⟩) v.list.length vc, .slice (some ⟨nb, noff, none⟩) v.names.length vc'] #[.int .i64 m.kind, .int .i64 m.num, .string m.text, .slice ma m.list.length mc, .slice ma' m.names.length mc'] l xs ns x xc y yc) := HST.out.on HBN.out
          have hszN := HS1.out.sz
          clear m0 m1 m2 m3 m4 b0 b1 b2 b3 b4 s0 hmne hvne hnne HLT HBd HBz
          obtain ⟨s0, _, _, _, _, _, hAn, _⟩ := HC5.out WN HS1.out.bel
          cases bq
          rotate_left
          · have HLN2 : Hid (l = (((pvOf v).take (j + 1)).filter (fun p => (treeO m p.1).isNone)).map (·.2) ∧ ns = (((pvOf v).take (j + 1)).filter (fun p => (treeO m p.1).isNone)).map (·.1)) := by
              have h1 : (treeO m v.names[j]).isNone = false := by have h := HBQ.out; cases hh : treeO m v.names[j] <;> simp [hh] at h ⊢
              show _ ∧ _
              rw [HSN.out, h1]
              simpa using HLN.out
            go_wp2_with fail
            exact ⟨⟨j + 1, l, ns, xs, x, xc, y, yc, by go_num, by omega, by omega, by omega, HLN2, HNS, HS1⟩, by simp [intOf]; omega⟩
          · have HLN2 : Hid (l ++ [v.list[j]] = (((pvOf v).take (j + 1)).filter (fun p => (treeO m p.1).isNone)).map (·.2) ∧ ns ++ [v.names[j]] = (((pvOf v).take (j + 1)).filter (fun p => (treeO m p.1).isNone)).map (·.1)) := by
              have h1 : (treeO m v.names[j]).isNone = true := by have h := HBQ.out; cases hh : treeO m v.names[j] <;> simp [hh] at h ⊢
              obtain ⟨e1, e2⟩ := HLN.out
              show _ ∧ _
              rw [HSN.out, h1, if_pos rfl, List.map_append, List.map_append, ← e1, ← e2]
              exact ⟨rfl, rfl⟩
            have HNS2 : Hid (∀ s ∈ ns ++ [v.names[j]], s.size ≤ 140737488351232) := fun s hs => by
              rcases List.mem_append.1 hs with h | h
              · exact HNS.out s h
              · simp only [List.mem_singleton] at h; rw [h]; exact HS0.out
            have NBn : Hid (some (w.heap.size + 3) ≠ (Value.slice y ns.length yc).ownBlock) := (HS1.out.gr.far (by omega)).2
            obtain ⟨o0, o1, o2, o3, o4⟩ := out_box HS1.out.bo
            have of := out_frozen HS1.out.bo
            obtain ⟨b0, b1, b2, b3, b4⟩ := five_ofQ HS1.out.bv.cell
            have hns12 : ns.length ≤ 12 := by omega
            have hA0 : w.heap.size < WN.heap.size := cell_lt b4
            have hnbw : nb < w.heap.size := HNB.out.1
            have hlbw : lb < w.heap.size := HNB.out.2
            have hA3 : w.heap.size + 1 + 1 + 1 < WN.heap.size := cell_lt o4
            have HS9 : Hid _ := HS1
            go_wp2_with fail
            refine wp_region_last 10 _ rfl (fun w' => w'.cell? ⟨w.heap.size + 1 + 1 + 1, 4, none⟩ = some (.slice y ns.length yc) ∧ w'.cell? ⟨w.heap.size, 4, none⟩ = some (.slice (some ⟨nb, noff, none⟩) v.names.length vc') ∧ w'.cell? ⟨nb, noff + j, none⟩ = some (.string v.names[j])) (by kernel_rfl) rfl (by kernel_rfl) ?_ (fun hHeld => ?_)
            · try dsimp only
              go_keep
            refine wpAnyH_take (i := 0) (oi := { dst := some 41, op := Op.fieldAddr 29 (Operand.tmp 5) 4, type := 0, pos := "l8_patch.go:260", after := #[], guard := none }) (v := ?_) rfl (by kernel_rfl) (by kernel_rfl) (by kernel_rfl) (fun _ _ _ h => h) (Or.inl ⟨by rfl, ?_⟩) (by assumption) ?_
            rotate_left 1
            · (intro w hSw; (try dsimp only at hSw); go_simp)
              all_goals (try with_reducible rfl)
            try simp only [Act.put, List.setIfInBounds_toArray, List.set_cons_zero, List.set_cons_succ]
            refine wpAnyH_take (i := 1) (oi := { dst := some 42, op := Op.load 23 (Operand.tmp 41), type := 23, pos := "l8_patch.go:260", after := #[{ on := 0, ground := Ground.data }], guard := none }) (v := ?_) rfl (by kernel_rfl) (by kernel_rfl) (by kernel_rfl) (fun _ _ _ h => h) (Or.inl ⟨by rfl, ?_⟩) (by assumption) ?_
            rotate_left 1
            · (intro w hSw; (try dsimp only at hSw); go_simp)
              all_goals (try with_reducible rfl)
            try simp only [Act.put, List.setIfInBounds_toArray, List.set_cons_zero, List.set_cons_succ]
            refine wpAnyH_take (i := 2) (oi := { dst := some 43, op := Op.fieldAddr 29 (Operand.tmp 2) 4, type := 0, pos := "l8_patch.go:260", after := #[], guard := none }) (v := ?_) rfl (by kernel_rfl) (by kernel_rfl) (by kernel_rfl) (fun _ _ _ h => h) (Or.inl ⟨by rfl, ?_⟩) (by assumption) ?_
            rotate_left 1
            · (intro w hSw; (try dsimp only at hSw); go_simp)
              all_goals (try with_reducible rfl)
            try simp only [Act.put, List.setIfInBounds_toArray, List.set_cons_zero, List.set_cons_succ]
            refine wpAnyH_take (i := 3) (oi := { dst := some 44, op := Op.load 23 (Operand.tmp 43), type := 23, pos := "l8_patch.go:260", after := #[{ on := 2, ground := Ground.data }], guard := none }) (v := ?_) rfl (by kernel_rfl) (by kernel_rfl) (by kernel_rfl) (fun _ _ _ h => h) (Or.inl ⟨by rfl, ?_⟩) (by assumption) ?_
            rotate_left 1
            · (intro w hSw; (try dsimp only at hSw); go_simp)
              all_goals (try with_reducible rfl)
            try simp only [Act.put, List.setIfInBounds_toArray, List.set_cons_zero, List.set_cons_succ]
            refine wpAnyH_take (i := 4) (oi := { dst := some 45, op := Op.move (Operand.tmp 6), type := 3, pos := "l8_patch.go:260", after := #[], guard := none }) (v := ?_) rfl (by kernel_rfl) (by kernel_rfl) (by kernel_rfl) (fun _ _ _ h => h) (Or.inl ⟨by rfl, ?_⟩) (by assumption) ?_
            rotate_left 1
            · (intro w hSw; (try dsimp only at hSw); go_simp)
              all_goals (try with_reducible rfl)
            try simp only [Act.put, List.setIfInBounds_toArray, List.set_cons_zero, List.set_cons_succ]
            refine wpAnyH_take (i := 5) (oi := { dst := some 46, op := Op.indexAddr 23 (Operand.tmp 44) (Operand.tmp 45), type := 0, pos := "l8_patch.go:260", after := #[{ on := 3, ground := Ground.data }, { on := 4, ground := Ground.data }], guard := none }) (v := ?_) rfl (by kernel_rfl) (by kernel_rfl) (by kernel_rfl) (fun _ _ _ h => h) (Or.inl ⟨by rfl, ?_⟩) (by assumption) ?_
            rotate_left 1
            · (intro w hSw; (try dsimp only at hSw); go_simp)
              all_goals (try with_reducible rfl)
            try simp only [Act.put, List.setIfInBounds_toArray, List.set_cons_zero, List.set_cons_succ]
            refine wpAnyH_take (i := 6) (oi := { dst := some 47, op := Op.load 9 (Operand.tmp 46), type := 9, pos := "l8_patch.go:260", after := #[{ on := 5, ground := Ground.data }], guard := none }) (v := ?_) rfl (by kernel_rfl) (by kernel_rfl) (by kernel_rfl) (fun _ _ _ h => h) (Or.inl ⟨by rfl, ?_⟩) (by assumption) ?_
            rotate_left 1
            · (intro w hSw; (try dsimp only at hSw); go_simp)
              all_goals (try with_reducible rfl)
            try simp only [Act.put, List.setIfInBounds_toArray, List.set_cons_zero, List.set_cons_succ]
            refine wpAnyH_ready (rs := [7]) (by kernel_rfl) (by simp) ?_
            refine AllReadyH.cons (o := { dst := some 48, op := Op.buildSlice 23 1 #[(0, Operand.tmp 47)], type := 23, pos := "l8_patch.go:260", after := #[{ on := 6, ground := Ground.data }], guard := none }) rfl (fun K hK => ?_) ?_
            · go_simp
              refine hK.out _ _ ?_ (fun hHeld0 => ?_)
              · try dsimp only
                go_keep
              clear hK K hHeld
              try simp only [Act.put, List.setIfInBounds_toArray, List.set_cons_zero, List.set_cons_succ]
              refine wpAnyH_ready (rs := [8]) (by kernel_rfl) (by simp) ?_
              refine AllReadyH.cons (o := { dst := some 49, op := Op.call { callee := Callee.builtin Builtin.append, args := #[Operand.tmp 42, Operand.tmp 48], argTypes := #[23, 23] }, type := 23, pos := "l8_patch.go:260", after := #[{ on := 1, ground := Ground.data }, { on := 7, ground := Ground.data }], guard := none }) rfl (fun K hK => ?_) ?_
              · (refine step_append_lies _ (by rfl) _ _ _ (by rfl) (w.heap.size + 4) 9 i1 _ 1 16 Try.underlying23 hj0 hy0 hy1 hy2 rfl (by omega) (.slice y ns.length yc) ns.length (ns.map Value.string) (by rfl) (HS1.out.gr.nown.alloc _) ⟨WN.heap.size, 0, none⟩ 1 1 [.string v.names[j]] (by rfl) (by rfl) (World.news_of_block (cs := #[.string v.names[j]]) (t := 9) (fr := (0, 0)) (heap_alloc_newS WN _)) (by simp [Value.oneCell']) (by omega) (by unfold maxLen; omega) (by omega) (by simp; omega) (WN.heap.size + 1) (by simp) ?_; intro g cap_g w3 hown_g hgr_g hat_g hlt_g; have HGR3 : Hid (((WN.alloc (Obj.cells #[.string v.names[j]] 9))).grownBy w3 (Value.slice y ns.length yc).ownBlock) := grown_drewM hgr_g; have f4 := HGR3.out.cell (a := ⟨w.heap.size + 1 + 1 + 1, 4, none⟩) ((World.cell?_alloc_lt _ _ _ (cell_lt o4)).trans o4) (HS9.out.gr.far (by (try dsimp only); omega)).2; have g4 := HGR3.out.cell (a := ⟨w.heap.size, 4, none⟩) ((World.cell?_alloc_lt _ _ _ (cell_lt b4)).trans b4) (HS9.out.gr.far (by (try dsimp only); omega)).2; have gs := HGR3.out.cell (a := ⟨nb, noff + j, none⟩) ((World.cell?_alloc_lt _ _ _ (cell_lt s0)).trans s0) (HS9.out.gr.far (by (try dsimp only); omega)).2; have f4f : w3.frozen? ⟨w.heap.size + 1 + 1 + 1, 4, none⟩ = false := (HGR3.out.frozen_far ⟨w.heap.size + 1 + 1 + 1, 4, none⟩ (by simp; omega) NBn.out).trans ((World.frozen?_of_block (w := WN) (Below.heap_alloc _ _ _ (cell_lt o4))).trans (of 4)); have HOWN3 : Hid _ := hown_g; have HAT3 : Hid _ := hat_g; clear hown_g hgr_g hat_g)
                refine hK.out _ _ ?_ (fun hHeld1 => ?_)
                · try dsimp only
                  go_keep
                clear hK K hHeld0
                try simp only [Act.put, List.setIfInBounds_toArray, List.set_cons_zero, List.set_cons_succ]
                refine wpAnyH_take (i := 9) (oi := { dst := some 50, op := Op.fieldAddr 29 (Operand.tmp 5) 4, type := 0, pos := "l8_patch.go:260", after := #[{ on := 0, ground := Ground.phase }, { on := 1, ground := Ground.phase }, { on := 2, ground := Ground.phase }, { on := 3, ground := Ground.phase }, { on := 4, ground := Ground.phase }, { on := 5, ground := Ground.phase }, { on := 6, ground := Ground.phase }, { on := 7, ground := Ground.phase }, { on := 8, ground := Ground.phase }], guard := none }) (v := ?_) rfl (by kernel_rfl) (by kernel_rfl) (by kernel_rfl) (fun _ _ _ h => h) (Or.inl ⟨by rfl, ?_⟩) (by assumption) ?_
                rotate_left 1
                · (intro w hSw; (try dsimp only at hSw); go_simp)
                  all_goals (try with_reducible rfl)
                try simp only [Act.put, List.setIfInBounds_toArray, List.set_cons_zero, List.set_cons_succ]
                refine wpAnyH_done (by kernel_rfl) ?_ _
                intro KK hKK
                go_simp
                refine hKK _ _ ?_
                clear hKK KK
                obtain ⟨W3, hW3⟩ : ∃ W3, W3 = w3.setCell ⟨w.heap.size + 1 + 1 + 1, 4, none⟩ (.slice (some ⟨g, 0, none⟩) (ns.length + 1) cap_g) := ⟨_, rfl⟩
                rw [← hW3]
                have HS3 : Hid (MdSt w W3 k #[.int .i64 v.kind, .int .i64 v.num, .string v.text, .slice (some ⟨lb, loff, none⟩) v.list.length vc, .slice (some ⟨nb, noff, none⟩) v.names.length vc'] #[.int .i64 m.kind, .int .i64 m.num, .string m.text, .slice ma m.list.length mc, .slice ma' m.names.length mc'] l xs (ns ++ [v.names[j]]) x xc (some ⟨g, 0, none⟩) cap_g) := by rw [hW3]; exact HS1.out.name HOWN3.out HGR3.out HAT3.out
                clear hW3 HOWN3 HGR3 HAT3 f4 f4f g4 gs hlt_g o0 o1 o2 o3 o4 of b0 b1 b2 b3 b4 s0 hA0 hA3 hAn NBn
                have NBv : Hid (some (w.heap.size + 3) ≠ (Value.slice x l.length xc).ownBlock) := (HS3.out.gr.far (by omega)).1
                obtain ⟨_, _, _, o3, _⟩ := out_box HS3.out.bo
                have of := out_frozen HS3.out.bo
                have hsz3 := HS3.out.sz
                obtain ⟨_, c0, c1, c2, c3, c4, _, hlbW⟩ := HC5.out W3 HS3.out.bel
                obtain ⟨b0, b1, b2, b3, b4⟩ := five_ofQ HS3.out.bv.cell
                have HCP : Hid (Calls Try.prog 77 #[.agg #[.int .i64 v.list[j].kind, .int .i64 v.list[j].num, .string v.list[j].text, .slice q1 v.list[j].list.length e1, .slice q1' v.list[j].names.length e1']] W3.drew fun e w4 => ∃ (p3 : Option Addr) (n3 : Nat) (p3' : Option Addr) (n3' : Nat), e = .returned (.agg #[.int .i64 v.list[j].kind, .int .i64 v.list[j].num, .string v.list[j].text, .slice p3 v.list[j].list.length n3, .slice p3' v.list[j].names.length n3']) ∧ (w4.cell? ⟨w.heap.size + 1 + 1 + 1, 3, none⟩ = some (.slice x l.length xc) ∧ w4.cell? ⟨w.heap.size, 3, none⟩ = some (.slice (some ⟨lb, loff, none⟩) v.list.length vc) ∧ w4.cell? ⟨lb, loff + j * 5, none⟩ = some (.int .i64 v.list[j].kind) ∧ w4.cell? ⟨lb, loff + j * 5 + 1, none⟩ = some (.int .i64 v.list[j].num) ∧ w4.cell? ⟨lb, loff + j * 5 + 2, none⟩ = some (.string v.list[j].text) ∧ w4.cell? ⟨lb, loff + j * 5 + 3, none⟩ = some (.slice q1 v.list[j].list.length e1) ∧ w4.cell? ⟨lb, loff + j * 5 + 4, none⟩ = some (.slice q1' v.list[j].names.length e1')) ∧ w4.frozen? ⟨w.heap.size + 1 + 1 + 1, 3, none⟩ = false ∧ w.heap.size + 4 ≤ w4.heap.size ∧ w.heap.size + 1 + 1 + 1 < w4.heap.size ∧ Hid (w4.ownsRow (w.heap.size + 4) 29 5 (.slice x l.length xc) l.length xs) ∧ Hid (Below W3.heap.size W3 w4) ∧ Hid (VlK w4 W3.heap.size w4.heap.size k v.list[j] [.int .i64 v.list[j].kind, .int .i64 v.list[j].num, .string v.list[j].text, .slice p3 v.list[j].list.length n3, .slice p3' v.list[j].names.length n3'])) := by
                  refine (copy_all k v.list[j] _ _ W3.drew (HCJ.out _ (Keeps.of_below HS3.out.bel (Nat.le_refl _) 0).drew)).mono ?_
                  rintro e w4 ⟨vl4, vn4, rfl, hI, hb4⟩
                  obtain ⟨p3, n3, p3', n3', hq⟩ := (VlI.read hI).cells
                  simp only [List.cons.injEq, true_and, and_true] at hq
                  obtain ⟨rfl, rfl⟩ := hq
                  have hb4' : Below W3.heap.size W3 w4 := (Below.refl _ W3).drew.trans hb4
                  have h4 := HS3.out.on hb4'
                  exact ⟨p3, n3, p3', n3', rfl, ⟨(out_box h4.bo).2.2.2.1, (five_ofQ h4.bv.cell).2.2.2.1, cell_on hb4' c0, cell_on hb4' c1, cell_on hb4' c2, cell_on hb4' c3, cell_on hb4' c4⟩, out_frozen h4.bo 3, h4.sz, h4.sz, h4.gr.own, hb4', fun W hW => VlQ.read _ _ _ (hI W hW)⟩
                go_wp2_with fail
                refine wp_region_last 11 _ rfl (fun w' => w'.cell? ⟨w.heap.size + 1 + 1 + 1, 3, none⟩ = some (.slice x l.length xc) ∧ w'.cell? ⟨w.heap.size, 3, none⟩ = some (.slice (some ⟨lb, loff, none⟩) v.list.length vc) ∧ w'.cell? ⟨lb, loff + j * 5, none⟩ = some (.int .i64 v.list[j].kind) ∧ w'.cell? ⟨lb, loff + j * 5 + 1, none⟩ = some (.int .i64 v.list[j].num) ∧ w'.cell? ⟨lb, loff + j * 5 + 2, none⟩ = some (.string v.list[j].text) ∧ w'.cell? ⟨lb, loff + j * 5 + 3, none⟩ = some (.slice q1 v.list[j].list.length e1) ∧ w'.cell? ⟨lb, loff + j * 5 + 4, none⟩ = some (.slice q1' v.list[j].names.length e1')) (by kernel_rfl) rfl (by kernel_rfl) ?_ (fun hHeld => ?_)
                · try dsimp only
                  go_keep
                refine wpAnyH_take (i := 0) (oi := { dst := some 51, op := Op.fieldAddr 29 (Operand.tmp 5) 3, type := 0, pos := "l8_patch.go:261", after := #[], guard := none }) (v := ?_) rfl (by kernel_rfl) (by kernel_rfl) (by kernel_rfl) (fun _ _ _ h => h) (Or.inl ⟨by rfl, ?_⟩) (by assumption) ?_
                rotate_left 1
                · (intro w hSw; (try dsimp only at hSw); go_simp)
                  all_goals (try with_reducible rfl)
                try simp only [Act.put, List.setIfInBounds_toArray, List.set_cons_zero, List.set_cons_succ]
                refine wpAnyH_take (i := 1) (oi := { dst := some 52, op := Op.load 27 (Operand.tmp 51), type := 27, pos := "l8_patch.go:261", after := #[{ on := 0, ground := Ground.data }], guard := none }) (v := ?_) rfl (by kernel_rfl) (by kernel_rfl) (by kernel_rfl) (fun _ _ _ h => h) (Or.inl ⟨by rfl, ?_⟩) (by assumption) ?_
                rotate_left 1
                · (intro w hSw; (try dsimp only at hSw); go_simp)
                  all_goals (try with_reducible rfl)
                try simp only [Act.put, List.setIfInBounds_toArray, List.set_cons_zero, List.set_cons_succ]
                refine wpAnyH_take (i := 2) (oi := { dst := some 53, op := Op.fieldAddr 29 (Operand.tmp 2) 3, type := 0, pos := "l8_patch.go:261", after := #[], guard := none }) (v := ?_) rfl (by kernel_rfl) (by kernel_rfl) (by kernel_rfl) (fun _ _ _ h => h) (Or.inl ⟨by rfl, ?_⟩) (by assumption) ?_
                rotate_left 1
                · (intro w hSw; (try dsimp only at hSw); go_simp)
                  all_goals (try with_reducible rfl)
                try simp only [Act.put, List.setIfInBounds_toArray, List.set_cons_zero, List.set_cons_succ]
                refine wpAnyH_take (i := 3) (oi := { dst := some 54, op := Op.load 27 (Operand.tmp 53), type := 27, pos := "l8_patch.go:261", after := #[{ on := 2, ground := Ground.data }], guard := none }) (v := ?_) rfl (by kernel_rfl) (by kernel_rfl) (by kernel_rfl) (fun _ _ _ h => h) (Or.inl ⟨by rfl, ?_⟩) (by assumption) ?_
                rotate_left 1
                · (intro w hSw; (try dsimp only at hSw); go_simp)
                  all_goals (try with_reducible rfl)
                try simp only [Act.put, List.setIfInBounds_toArray, List.set_cons_zero, List.set_cons_succ]
                refine wpAnyH_take (i := 4) (oi := { dst := some 55, op := Op.move (Operand.tmp 6), type := 3, pos := "l8_patch.go:261", after := #[], guard := none }) (v := ?_) rfl (by kernel_rfl) (by kernel_rfl) (by kernel_rfl) (fun _ _ _ h => h) (Or.inl ⟨by rfl, ?_⟩) (by assumption) ?_
                rotate_left 1
                · (intro w hSw; (try dsimp only at hSw); go_simp)
                  all_goals (try with_reducible rfl)
                try simp only [Act.put, List.setIfInBounds_toArray, List.set_cons_zero, List.set_cons_succ]
                refine wpAnyH_take (i := 5) (oi := { dst := some 56, op := Op.indexAddr 27 (Operand.tmp 54) (Operand.tmp 55), type := 0, pos := "l8_patch.go:261", after := #[{ on := 3, ground := Ground.data }, { on := 4, ground := Ground.data }], guard := none }) (v := ?_) rfl (by kernel_rfl) (by kernel_rfl) (by kernel_rfl) (fun _ _ _ h => h) (Or.inl ⟨by rfl, ?_⟩) (by assumption) ?_
                rotate_left 1
                · (intro w hSw; (try dsimp only at hSw); go_simp)
                  all_goals (try with_reducible rfl)
                try simp only [Act.put, List.setIfInBounds_toArray, List.set_cons_zero, List.set_cons_succ]
                refine wpAnyH_take (i := 6) (oi := { dst := some 57, op := Op.load 29 (Operand.tmp 56), type := 29, pos := "l8_patch.go:261", after := #[{ on := 5, ground := Ground.data }], guard := none }) (v := ?_) rfl (by kernel_rfl) (by kernel_rfl) (by kernel_rfl) (fun _ _ _ h => h) (Or.inl ⟨by rfl, ?_⟩) (by assumption) ?_
                rotate_left 1
                · (intro w hSw; (try dsimp only at hSw); go_simp)
                  all_goals (try with_reducible rfl)
                try simp only [Act.put, List.setIfInBounds_toArray, List.set_cons_zero, List.set_cons_succ]
                refine wpAnyH_ready (rs := [7]) (by kernel_rfl) (by simp) ?_
                refine AllReadyH.cons (o := { dst := some 58, op := Op.call { callee := Callee.value (Operand.func 77), args := #[Operand.tmp 57], argTypes := #[29] }, type := 29, pos := "l8_patch.go:261", after := #[{ on := 6, ground := Ground.data }], guard := none }) rfl (fun K hK => ?_) ?_
                · go_simp
                  (go_at_call 77; refine (Hid.out HCP).mono ?_; (try clear o3 b3 c0 c1 c2 c3 c4); rintro e w4 ⟨p3, n3, p3', n3', rfl, ⟨f3, b3, c0, c1, c2, c3, c4⟩, f3f, hsz4, hA4, HOWN, HB4, HVK⟩)
                  refine hK.out _ _ ?_ (fun hHeld0 => ?_)
                  · try dsimp only
                    go_keep
                  clear hK K hHeld
                  try simp only [Act.put, List.setIfInBounds_toArray, List.set_cons_zero, List.set_cons_succ]
                  refine wpAnyH_ready (rs := [8]) (by kernel_rfl) (by simp) ?_
                  refine AllReadyH.cons (o := { dst := some 59, op := Op.buildSlice 27 1 #[(0, Operand.tmp 58)], type := 27, pos := "l8_patch.go:261", after := #[{ on := 7, ground := Ground.data }], guard := none }) rfl (fun K hK => ?_) ?_
                  · go_simp
                    refine hK.out _ _ ?_ (fun hHeld1 => ?_)
                    · try dsimp only
                      go_keep
                    clear hK K hHeld0
                    try simp only [Act.put, List.setIfInBounds_toArray, List.set_cons_zero, List.set_cons_succ]
                    refine wpAnyH_ready (rs := [9]) (by kernel_rfl) (by simp) ?_
                    refine AllReadyH.cons (o := { dst := some 60, op := Op.call { callee := Callee.builtin Builtin.append, args := #[Operand.tmp 52, Operand.tmp 59], argTypes := #[27, 27] }, type := 27, pos := "l8_patch.go:261", after := #[{ on := 1, ground := Ground.data }, { on := 8, ground := Ground.data }, { on := 7, ground := Ground.chain }], guard := none }) rfl (fun K hK => ?_) ?_
                    · (refine step_append_lies _ (by rfl) _ _ _ (by rfl) (w.heap.size + 4) 29 i0 _ 5 80 Try.underlying27 hi0 hz0 hz1 hz2 rfl (by omega) (.slice x l.length xc) l.length xs (by rfl) (HOWN.out.alloc _) ⟨w4.heap.size, 0, none⟩ 1 1 [.int .i64 v.list[j].kind, .int .i64 v.list[j].num, .string v.list[j].text, .slice p3 v.list[j].list.length n3, .slice p3' v.list[j].names.length n3'] (by rfl) (by rfl) (World.news_of_block (cs := #[.int .i64 v.list[j].kind, .int .i64 v.list[j].num, .string v.list[j].text, .slice p3 v.list[j].list.length n3, .slice p3' v.list[j].names.length n3']) (t := 29) (fr := (0, 0)) (heap_alloc_newS w4 _)) (by simp [Value.oneCell']) (by omega) (by unfold maxLen; omega) (by omega) (by simp; omega) (w4.heap.size + 1) (by simp) ?_; intro g2 cap_g2 w5 hown_g2 hgr_g2 hat_g2 hlt_g2; have HGR5 : Hid _ := hgr_g2; have g3 := HGR5.out.cell (a := ⟨w.heap.size + 1 + 1 + 1, 3, none⟩) ((World.cell?_alloc_lt _ _ _ (cell_lt f3)).trans f3) (HS3.out.gr.far (by (try dsimp only); omega)).1; have h3 := HGR5.out.cell (a := ⟨w.heap.size, 3, none⟩) ((World.cell?_alloc_lt _ _ _ (cell_lt b3)).trans b3) (HS3.out.gr.far (by (try dsimp only); omega)).1; have d0 := HGR5.out.cell (a := ⟨lb, loff + j * 5, none⟩) ((World.cell?_alloc_lt _ _ _ (cell_lt c0)).trans c0) (HS3.out.gr.far (by (try dsimp only); omega)).1; have d1 := HGR5.out.cell (a := ⟨lb, loff + j * 5 + 1, none⟩) ((World.cell?_alloc_lt _ _ _ (cell_lt c1)).trans c1) (HS3.out.gr.far (by (try dsimp only); omega)).1; have d2 := HGR5.out.cell (a := ⟨lb, loff + j * 5 + 2, none⟩) ((World.cell?_alloc_lt _ _ _ (cell_lt c2)).trans c2) (HS3.out.gr.far (by (try dsimp only); omega)).1; have d3 := HGR5.out.cell (a := ⟨lb, loff + j * 5 + 3, none⟩) ((World.cell?_alloc_lt _ _ _ (cell_lt c3)).trans c3) (HS3.out.gr.far (by (try dsimp only); omega)).1; have d4 := HGR5.out.cell (a := ⟨lb, loff + j * 5 + 4, none⟩) ((World.cell?_alloc_lt _ _ _ (cell_lt c4)).trans c4) (HS3.out.gr.far (by (try dsimp only); omega)).1; have f3f' : w5.frozen? ⟨w.heap.size + 1 + 1 + 1, 3, none⟩ = false := (HGR5.out.frozen_far ⟨w.heap.size + 1 + 1 + 1, 3, none⟩ (by simp; omega) NBv.out).trans ((World.frozen?_of_block (w := w4) (Below.heap_alloc _ _ _ (cell_lt f3))).trans f3f); have HOWN5 : Hid _ := hown_g2; have HAT5 : Hid _ := hat_g2; clear hown_g2 hgr_g2 hat_g2)
                      refine hK.out _ _ ?_ (fun hHeld2 => ?_)
                      · try dsimp only
                        go_keep
                      clear hK K hHeld1
                      try simp only [Act.put, List.setIfInBounds_toArray, List.set_cons_zero, List.set_cons_succ]
                      refine wpAnyH_take (i := 10) (oi := { dst := some 61, op := Op.fieldAddr 29 (Operand.tmp 5) 3, type := 0, pos := "l8_patch.go:261", after := #[{ on := 0, ground := Ground.phase }, { on := 1, ground := Ground.phase }, { on := 2, ground := Ground.phase }, { on := 3, ground := Ground.phase }, { on := 4, ground := Ground.phase }, { on := 5, ground := Ground.phase }, { on := 6, ground := Ground.phase }, { on := 7, ground := Ground.phase }, { on := 8, ground := Ground.phase }, { on := 9, ground := Ground.phase }], guard := none }) (v := ?_) rfl (by kernel_rfl) (by kernel_rfl) (by kernel_rfl) (fun _ _ _ h => h) (Or.inl ⟨by rfl, ?_⟩) (by assumption) ?_
                      rotate_left 1
                      · (intro w hSw; (try dsimp only at hSw); go_simp)
                        all_goals (try with_reducible rfl)
                      try simp only [Act.put, List.setIfInBounds_toArray, List.set_cons_zero, List.set_cons_succ]
                      refine wpAnyH_done (by kernel_rfl) ?_ _
                      intro KK hKK
                      go_simp
                      refine hKK _ _ ?_
                      clear hKK KK
                      have HS4 : Hid (MdSt w (w5.setCell ⟨w.heap.size + 3, 3, none⟩ (.slice (some ⟨g2, 0, none⟩) (l.length + 1) cap_g2)) k #[.int .i64 v.kind, .int .i64 v.num, .string v.text, .slice (some ⟨lb, loff, none⟩) v.list.length vc, .slice (some ⟨nb, noff, none⟩) v.names.length vc'] #[.int .i64 m.kind, .int .i64 m.num, .string m.text, .slice ma m.list.length mc, .slice ma' m.names.length mc'] (l ++ [v.list[j]]) (xs ++ [.int .i64 v.list[j].kind, .int .i64 v.list[j].num, .string v.list[j].text, .slice p3 v.list[j].list.length n3, .slice p3' v.list[j].names.length n3']) (ns ++ [v.names[j]]) (some ⟨g2, 0, none⟩) cap_g2 (some ⟨g, 0, none⟩) cap_g) := HS3.out.step rfl HB4.out HVK.out HOWN5.out HGR5.out HAT5.out
                      clear HOWN5 HGR5 HAT5 HVK HB4 HOWN f3 f3f g3 h3 d0 d1 d2 d3 d4 b3 c0 c1 c2 c3 c4 f3f' hsz4 hA4 hlt_g2 HCP
                      go_wp2_with fail
                      exact ⟨⟨j + 1, l ++ [v.list[j]], ns ++ [v.names[j]], xs ++ [.int .i64 v.list[j].kind, .int .i64 v.list[j].num, .string v.list[j].text, .slice p3 v.list[j].list.length n3, .slice p3' v.list[j].names.length n3'], some ⟨g2, 0, none⟩, cap_g2, some ⟨g, 0, none⟩, cap_g, by go_num, by omega, by simp; omega, by simp; omega, HLN2, HNS2, HS4⟩, by simp [intOf]; omega⟩
                    exact AllReadyH.nil
                  exact AllReadyH.nil
                exact AllReadyH.nil
              exact AllReadyH.nil
            exact AllReadyH.nil
        · obtain ⟨WN, hWN⟩ : ∃ WN, WN = wT.alloc (Obj.cells #[.int .i64 X.kind, .int .i64 X.num, .string X.text, .slice p2 X.list.length n2, .slice p2' X.names.length n2'] 29) := ⟨_, rfl⟩
          rw [← hWN]
          have HBN : Hid (Below wr.heap.size wr WN) := by rw [hWN]; exact HBT.out.alloc HBT.out.size _
          clear hWN HBT HBT2 HRT
          have HS1 : Hid (MdSt w WN k #[.int .i64 v.kind, .int .i64 v.num, .string v.text, .slice (some ⟨lb, loff, none⟩) v.list.length vc, .slice (some ⟨nb, noff, none⟩) v.names.length vc'] #[.int .i64 m.kind, .int .i64 m.num, .string m.text, .slice ma m.list.length mc, .slice ma' m.names.length mc'] l xs ns x xc y yc) := HST.out.on HBN.out
          have hszN := HS1.out.sz
          clear m0 m1 m2 m3 m4 b0 b1 b2 b3 b4 s0 hmne hvne hnne HLT HBd HBz
          obtain ⟨s0, _, _, _, _, _, hAn, _⟩ := HC5.out WN HS1.out.bel
          cases bq
          rotate_left
          · have HLN2 : Hid (l = (((pvOf v).take (j + 1)).filter (fun p => (treeO m p.1).isNone)).map (·.2) ∧ ns = (((pvOf v).take (j + 1)).filter (fun p => (treeO m p.1).isNone)).map (·.1)) := by
              have h1 : (treeO m v.names[j]).isNone = false := by have h := HBQ.out; cases hh : treeO m v.names[j] <;> simp [hh] at h ⊢
              show _ ∧ _
              rw [HSN.out, h1]
              simpa using HLN.out
            go_wp2_with fail
            exact ⟨⟨j + 1, l, ns, xs, x, xc, y, yc, by go_num, by omega, by omega, by omega, HLN2, HNS, HS1⟩, by simp [intOf]; omega⟩
          · have HLN2 : Hid (l ++ [v.list[j]] = (((pvOf v).take (j + 1)).filter (fun p => (treeO m p.1).isNone)).map (·.2) ∧ ns ++ [v.names[j]] = (((pvOf v).take (j + 1)).filter (fun p => (treeO m p.1).isNone)).map (·.1)) := by
              have h1 : (treeO m v.names[j]).isNone = true := by have h := HBQ.out; cases hh : treeO m v.names[j] <;> simp [hh] at h ⊢
              obtain ⟨e1, e2⟩ := HLN.out
              show _ ∧ _
              rw [HSN.out, h1, if_pos rfl, List.map_append, List.map_append, ← e1, ← e2]
              exact ⟨rfl, rfl⟩
            have HNS2 : Hid (∀ s ∈ ns ++ [v.names[j]], s.size ≤ 140737488351232) := fun s hs => by
              rcases List.mem_append.1 hs with h | h
              · exact HNS.out s h
              · simp only [List.mem_singleton] at h; rw [h]; exact HS0.out
            have NBn : Hid (some (w.heap.size + 3) ≠ (Value.slice y ns.length yc).ownBlock) := (HS1.out.gr.far (by omega)).2
            obtain ⟨o0, o1, o2, o3, o4⟩ := out_box HS1.out.bo
            have of := out_frozen HS1.out.bo
            obtain ⟨b0, b1, b2, b3, b4⟩ := five_ofQ HS1.out.bv.cell
            have hns12 : ns.length ≤ 12 := by omega
            have hA0 : w.heap.size < WN.heap.size := cell_lt b4
            have hnbw : nb < w.heap.size := HNB.out.1
            have hlbw : lb < w.heap.size := HNB.out.2
            have hA3 : w.heap.size + 1 + 1 + 1 < WN.heap.size := cell_lt o4
            have HS9 : Hid _ := HS1
            go_wp2_with fail
            refine wp_region_last 10 _ rfl (fun w' => w'.cell? ⟨w.heap.size + 1 + 1 + 1, 4, none⟩ = some (.slice y ns.length yc) ∧ w'.cell? ⟨w.heap.size, 4, none⟩ = some (.slice (some ⟨nb, noff, none⟩) v.names.length vc') ∧ w'.cell? ⟨nb, noff + j, none⟩ = some (.string v.names[j])) (by kernel_rfl) rfl (by kernel_rfl) ?_ (fun hHeld => ?_)
            · try dsimp only
              go_keep
            refine wpAnyH_take (i := 0) (oi := { dst := some 41, op := Op.fieldAddr 29 (Operand.tmp 5) 4, type := 0, pos := "l8_patch.go:260", after := #[], guard := none }) (v := ?_) rfl (by kernel_rfl) (by kernel_rfl) (by kernel_rfl) (fun _ _ _ h => h) (Or.inl ⟨by rfl, ?_⟩) (by assumption) ?_
            rotate_left 1
            · (intro w hSw; (try dsimp only at hSw); go_simp)
              all_goals (try with_reducible rfl)
            try simp only [Act.put, List.setIfInBounds_toArray, List.set_cons_zero, List.set_cons_succ]
            refine wpAnyH_take (i := 1) (oi := { dst := some 42, op := Op.load 23 (Operand.tmp 41), type := 23, pos := "l8_patch.go:260", after := #[{ on := 0, ground := Ground.data }], guard := none }) (v := ?_) rfl (by kernel_rfl) (by kernel_rfl) (by kernel_rfl) (fun _ _ _ h => h) (Or.inl ⟨by rfl, ?_⟩) (by assumption) ?_
            rotate_left 1
            · (intro w hSw; (try dsimp only at hSw); go_simp)
              all_goals (try with_reducible rfl)
            try simp only [Act.put, List.setIfInBounds_toArray, List.set_cons_zero, List.set_cons_succ]
            refine wpAnyH_take (i := 2) (oi := { dst := some 43, op := Op.fieldAddr 29 (Operand.tmp 2) 4, type := 0, pos := "l8_patch.go:260", after := #[], guard := none }) (v := ?_) rfl (by kernel_rfl) (by kernel_rfl) (by kernel_rfl) (fun _ _ _ h => h) (Or.inl ⟨by rfl, ?_⟩) (by assumption) ?_
            rotate_left 1
            · (intro w hSw; (try dsimp only at hSw); go_simp)
              all_goals (try with_reducible rfl)
            try simp only [Act.put, List.setIfInBounds_toArray, List.set_cons_zero, List.set_cons_succ]
            refine wpAnyH_take (i := 3) (oi := { dst := some 44, op := Op.load 23 (Operand.tmp 43), type := 23, pos := "l8_patch.go:260", after := #[{ on := 2, ground := Ground.data }], guard := none }) (v := ?_) rfl (by kernel_rfl) (by kernel_rfl) (by kernel_rfl) (fun _ _ _ h => h) (Or.inl ⟨by rfl, ?_⟩) (by assumption) ?_
            rotate_left 1
            · (intro w hSw; (try dsimp only at hSw); go_simp)
              all_goals (try with_reducible rfl)
            try simp only [Act.put, List.setIfInBounds_toArray, List.set_cons_zero, List.set_cons_succ]
            refine wpAnyH_take (i := 4) (oi := { dst := some 45, op := Op.move (Operand.tmp 6), type := 3, pos := "l8_patch.go:260", after := #[], guard := none }) (v := ?_) rfl (by kernel_rfl) (by kernel_rfl) (by kernel_rfl) (fun _ _ _ h => h) (Or.inl ⟨by rfl, ?_⟩) (by assumption) ?_
            rotate_left 1
            · (intro w hSw; (try dsimp only at hSw); go_simp)
              all_goals (try with_reducible rfl)
            try simp only [Act.put, List.setIfInBounds_toArray, List.set_cons_zero, List.set_cons_succ]
            refine wpAnyH_take (i := 5) (oi := { dst := some 46, op := Op.indexAddr 23 (Operand.tmp 44) (Operand.tmp 45), type := 0, pos := "l8_patch.go:260", after := #[{ on := 3, ground := Ground.data }, { on := 4, ground := Ground.data }], guard := none }) (v := ?_) rfl (by kernel_rfl) (by kernel_rfl) (by kernel_rfl) (fun _ _ _ h => h) (Or.inl ⟨by rfl, ?_⟩) (by assumption) ?_
            rotate_left 1
            · (intro w hSw; (try dsimp only at hSw); go_simp)
              all_goals (try with_reducible rfl)
            try simp only [Act.put, List.setIfInBounds_toArray, List.set_cons_zero, List.set_cons_succ]
            refine wpAnyH_take (i := 6) (oi := { dst := some 47, op := Op.load 9 (Operand.tmp 46), type := 9, pos := "l8_patch.go:260", after := #[{ on := 5, ground := Ground.data }], guard := none }) (v := ?_) rfl (by kernel_rfl) (by kernel_rfl) (by kernel_rfl) (fun _ _ _ h => h) (Or.inl ⟨by rfl, ?_⟩) (by assumption) ?_
            rotate_left 1
            · (intro w hSw; (try dsimp only at hSw); go_simp)
              all_goals (try with_reducible rfl)
            try simp only [Act.put, List.setIfInBounds_toArray, List.set_cons_zero, List.set_cons_succ]
            refine wpAnyH_ready (rs := [7]) (by kernel_rfl) (by simp) ?_
            refine AllReadyH.cons (o := { dst := some 48, op := Op.buildSlice 23 1 #[(0, Operand.tmp 47)], type := 23, pos := "l8_patch.go:260", after := #[{ on := 6, ground := Ground.data }], guard := none }) rfl (fun K hK => ?_) ?_
            · go_simp
              refine hK.out _ _ ?_ (fun hHeld0 => ?_)
              · try dsimp only
                go_keep
              clear hK K hHeld
              try simp only [Act.put, List.setIfInBounds_toArray, List.set_cons_zero, List.set_cons_succ]
              refine wpAnyH_ready (rs := [8]) (by kernel_rfl) (by simp) ?_
              refine AllReadyH.cons (o := { dst := some 49, op := Op.call { callee := Callee.builtin Builtin.append, args := #[Operand.tmp 42, Operand.tmp 48], argTypes := #[23, 23] }, type := 23, pos := "l8_patch.go:260", after := #[{ on := 1, ground := Ground.data }, { on := 7, ground := Ground.data }], guard := none }) rfl (fun K hK => ?_) ?_
              · (refine step_append_lies _ (by rfl) _ _ _ (by rfl) (w.heap.size + 4) 9 i1 _ 1 16 Try.underlying23 hj0 hy0 hy1 hy2 rfl (by omega) (.slice y ns.length yc) ns.length (ns.map Value.string) (by rfl) (HS1.out.gr.nown.alloc _) ⟨WN.heap.size, 0, none⟩ 1 1 [.string v.names[j]] (by rfl) (by rfl) (World.news_of_block (cs := #[.string v.names[j]]) (t := 9) (fr := (0, 0)) (heap_alloc_newS WN _)) (by simp [Value.oneCell']) (by omega) (by unfold maxLen; omega) (by omega) (by simp; omega) (WN.heap.size + 1) (by simp) ?_; intro g cap_g w3 hown_g hgr_g hat_g hlt_g; have HGR3 : Hid (((WN.alloc (Obj.cells #[.string v.names[j]] 9))).grownBy w3 (Value.slice y ns.length yc).ownBlock) := grown_drewM hgr_g; have f4 := HGR3.out.cell (a := ⟨w.heap.size + 1 + 1 + 1, 4, none⟩) ((World.cell?_alloc_lt _ _ _ (cell_lt o4)).trans o4) (HS9.out.gr.far (by (try dsimp only); omega)).2; have g4 := HGR3.out.cell (a := ⟨w.heap.size, 4, none⟩) ((World.cell?_alloc_lt _ _ _ (cell_lt b4)).trans b4) (HS9.out.gr.far (by (try dsimp only); omega)).2; have gs := HGR3.out.cell (a := ⟨nb, noff + j, none⟩) ((World.cell?_alloc_lt _ _ _ (cell_lt s0)).trans s0) (HS9.out.gr.far (by (try dsimp only); omega)).2; have f4f : w3.frozen? ⟨w.heap.size + 1 + 1 + 1, 4, none⟩ = false := (HGR3.out.frozen_far ⟨w.heap.size + 1 + 1 + 1, 4, none⟩ (by simp; omega) NBn.out).trans ((World.frozen?_of_block (w := WN) (Below.heap_alloc _ _ _ (cell_lt o4))).trans (of 4)); have HOWN3 : Hid _ := hown_g; have HAT3 : Hid _ := hat_g; clear hown_g hgr_g hat_g)
                refine hK.out _ _ ?_ (fun hHeld1 => ?_)
                · try dsimp only
                  go_keep
                clear hK K hHeld0
                try simp only [Act.put, List.setIfInBounds_toArray, List.set_cons_zero, List.set_cons_succ]
                refine wpAnyH_take (i := 9) (oi := { dst := some 50, op := Op.fieldAddr 29 (Operand.tmp 5) 4, type := 0, pos := "l8_patch.go:260", after := #[{ on := 0, ground := Ground.phase }, { on := 1, ground := Ground.phase }, { on := 2, ground := Ground.phase }, { on := 3, ground := Ground.phase }, { on := 4, ground := Ground.phase }, { on := 5, ground := Ground.phase }, { on := 6, ground := Ground.phase }, { on := 7, ground := Ground.phase }, { on := 8, ground := Ground.phase }], guard := none }) (v := ?_) rfl (by kernel_rfl) (by kernel_rfl) (by kernel_rfl) (fun _ _ _ h => h) (Or.inl ⟨by rfl, ?_⟩) (by assumption) ?_
                rotate_left 1
                · (intro w hSw; (try dsimp only at hSw); go_simp)
                  all_goals (try with_reducible rfl)
                try simp only [Act.put, List.setIfInBounds_toArray, List.set_cons_zero, List.set_cons_succ]
                refine wpAnyH_done (by kernel_rfl) ?_ _
                intro KK hKK
                go_simp
                refine hKK _ _ ?_
                clear hKK KK
                obtain ⟨W3, hW3⟩ : ∃ W3, W3 = w3.setCell ⟨w.heap.size + 1 + 1 + 1, 4, none⟩ (.slice (some ⟨g, 0, none⟩) (ns.length + 1) cap_g) := ⟨_, rfl⟩
                rw [← hW3]
                have HS3 : Hid (MdSt w W3 k #[.int .i64 v.kind, .int .i64 v.num, .string v.text, .slice (some ⟨lb, loff, none⟩) v.list.length vc, .slice (some ⟨nb, noff, none⟩) v.names.length vc'] #[.int .i64 m.kind, .int .i64 m.num, .string m.text, .slice ma m.list.length mc, .slice ma' m.names.length mc'] l xs (ns ++ [v.names[j]]) x xc (some ⟨g, 0, none⟩) cap_g) := by rw [hW3]; exact HS1.out.name HOWN3.out HGR3.out HAT3.out
                clear hW3 HOWN3 HGR3 HAT3 f4 f4f g4 gs hlt_g o0 o1 o2 o3 o4 of b0 b1 b2 b3 b4 s0 hA0 hA3 hAn NBn
                have NBv : Hid (some (w.heap.size + 3) ≠ (Value.slice x l.length xc).ownBlock) := (HS3.out.gr.far (by omega)).1
                obtain ⟨_, _, _, o3, _⟩ := out_box HS3.out.bo
                have of := out_frozen HS3.out.bo
                have hsz3 := HS3.out.sz
                obtain ⟨_, c0, c1, c2, c3, c4, _, hlbW⟩ := HC5.out W3 HS3.out.bel
                obtain ⟨b0, b1, b2, b3, b4⟩ := five_ofQ HS3.out.bv.cell
                have HCP : Hid (Calls Try.prog 77 #[.agg #[.int .i64 v.list[j].kind, .int .i64 v.list[j].num, .string v.list[j].text, .slice q1 v.list[j].list.length e1, .slice q1' v.list[j].names.length e1']] W3.drew fun e w4 => ∃ (p3 : Option Addr) (n3 : Nat) (p3' : Option Addr) (n3' : Nat), e = .returned (.agg #[.int .i64 v.list[j].kind, .int .i64 v.list[j].num, .string v.list[j].text, .slice p3 v.list[j].list.length n3, .slice p3' v.list[j].names.length n3']) ∧ (w4.cell? ⟨w.heap.size + 1 + 1 + 1, 3, none⟩ = some (.slice x l.length xc) ∧ w4.cell? ⟨w.heap.size, 3, none⟩ = some (.slice (some ⟨lb, loff, none⟩) v.list.length vc) ∧ w4.cell? ⟨lb, loff + j * 5, none⟩ = some (.int .i64 v.list[j].kind) ∧ w4.cell? ⟨lb, loff + j * 5 + 1, none⟩ = some (.int .i64 v.list[j].num) ∧ w4.cell? ⟨lb, loff + j * 5 + 2, none⟩ = some (.string v.list[j].text) ∧ w4.cell? ⟨lb, loff + j * 5 + 3, none⟩ = some (.slice q1 v.list[j].list.length e1) ∧ w4.cell? ⟨lb, loff + j * 5 + 4, none⟩ = some (.slice q1' v.list[j].names.length e1')) ∧ w4.frozen? ⟨w.heap.size + 1 + 1 + 1, 3, none⟩ = false ∧ w.heap.size + 4 ≤ w4.heap.size ∧ w.heap.size + 1 + 1 + 1 < w4.heap.size ∧ Hid (w4.ownsRow (w.heap.size + 4) 29 5 (.slice x l.length xc) l.length xs) ∧ Hid (Below W3.heap.size W3 w4) ∧ Hid (VlK w4 W3.heap.size w4.heap.size k v.list[j] [.int .i64 v.list[j].kind, .int .i64 v.list[j].num, .string v.list[j].text, .slice p3 v.list[j].list.length n3, .slice p3' v.list[j].names.length n3'])) := by
                  refine (copy_all k v.list[j] _ _ W3.drew (HCJ.out _ (Keeps.of_below HS3.out.bel (Nat.le_refl _) 0).drew)).mono ?_
                  rintro e w4 ⟨vl4, vn4, rfl, hI, hb4⟩
                  obtain ⟨p3, n3, p3', n3', hq⟩ := (VlI.read hI).cells
                  simp only [List.cons.injEq, true_and, and_true] at hq
                  obtain ⟨rfl, rfl⟩ := hq
                  have hb4' : Below W3.heap.size W3 w4 := (Below.refl _ W3).drew.trans hb4
                  have h4 := HS3.out.on hb4'
                  exact ⟨p3, n3, p3', n3', rfl, ⟨(out_box h4.bo).2.2.2.1, (five_ofQ h4.bv.cell).2.2.2.1, cell_on hb4' c0, cell_on hb4' c1, cell_on hb4' c2, cell_on hb4' c3, cell_on hb4' c4⟩, out_frozen h4.bo 3, h4.sz, h4.sz, h4.gr.own, hb4', fun W hW => VlQ.read _ _ _ (hI W hW)⟩
                go_wp2_with fail
                refine wp_region_last 11 _ rfl (fun w' => w'.cell? ⟨w.heap.size + 1 + 1 + 1, 3, none⟩ = some (.slice x l.length xc) ∧ w'.cell? ⟨w.heap.size, 3, none⟩ = some (.slice (some ⟨lb, loff, none⟩) v.list.length vc) ∧ w'.cell? ⟨lb, loff + j * 5, none⟩ = some (.int .i64 v.list[j].kind) ∧ w'.cell? ⟨lb, loff + j * 5 + 1, none⟩ = some (.int .i64 v.list[j].num) ∧ w'.cell? ⟨lb, loff + j * 5 + 2, none⟩ = some (.string v.list[j].text) ∧ w'.cell? ⟨lb, loff + j * 5 + 3, none⟩ = some (.slice q1 v.list[j].list.length e1) ∧ w'.cell? ⟨lb, loff + j * 5 + 4, none⟩ = some (.slice q1' v.list[j].names.length e1')) (by kernel_rfl) rfl (by kernel_rfl) ?_ (fun hHeld => ?_)
                · try dsimp only
                  go_keep
                refine wpAnyH_take (i := 0) (oi := { dst := some 51, op := Op.fieldAddr 29 (Operand.tmp 5) 3, type := 0, pos := "l8_patch.go:261", after := #[], guard := none }) (v := ?_) rfl (by kernel_rfl) (by kernel_rfl) (by kernel_rfl) (fun _ _ _ h => h) (Or.inl ⟨by rfl, ?_⟩) (by assumption) ?_
                rotate_left 1
                · (intro w hSw; (try dsimp only at hSw); go_simp)
                  all_goals (try with_reducible rfl)
                try simp only [Act.put, List.setIfInBounds_toArray, List.set_cons_zero, List.set_cons_succ]
                refine wpAnyH_take (i := 1) (oi := { dst := some 52, op := Op.load 27 (Operand.tmp 51), type := 27, pos := "l8_patch.go:261", after := #[{ on := 0, ground := Ground.data }], guard := none }) (v := ?_) rfl (by kernel_rfl) (by kernel_rfl) (by kernel_rfl) (fun _ _ _ h => h) (Or.inl ⟨by rfl, ?_⟩) (by assumption) ?_
                rotate_left 1
                · (intro w hSw; (try dsimp only at hSw); go_simp)
                  all_goals (try with_reducible rfl)
                try simp only [Act.put, List.setIfInBounds_toArray, List.set_cons_zero, List.set_cons_succ]
                refine wpAnyH_take (i := 2) (oi := { dst := some 53, op := Op.fieldAddr 29 (Operand.tmp 2) 3, type := 0, pos := "l8_patch.go:261", after := #[], guard := none }) (v := ?_) rfl (by kernel_rfl) (by kernel_rfl) (by kernel_rfl) (fun _ _ _ h => h) (Or.inl ⟨by rfl, ?_⟩) (by assumption) ?_
                rotate_left 1
                · (intro w hSw; (try dsimp only at hSw); go_simp)
                  all_goals (try with_reducible rfl)
                try simp only [Act.put, List.setIfInBounds_toArray, List.set_cons_zero, List.set_cons_succ]
                refine wpAnyH_take (i := 3) (oi := { dst := some 54, op := Op.load 27 (Operand.tmp 53), type := 27, pos := "l8_patch.go:261", after := #[{ on := 2, ground := Ground.data }], guard := none }) (v := ?_) rfl (by kernel_rfl) (by kernel_rfl) (by kernel_rfl) (fun _ _ _ h => h) (Or.inl ⟨by rfl, ?_⟩) (by assumption) ?_
                rotate_left 1
                · (intro w hSw; (try dsimp only at hSw); go_simp)
                  all_goals (try with_reducible rfl)
                try simp only [Act.put, List.setIfInBounds_toArray, List.set_cons_zero, List.set_cons_succ]
                refine wpAnyH_take (i := 4) (oi := { dst := some 55, op := Op.move (Operand.tmp 6), type := 3, pos := "l8_patch.go:261", after := #[], guard := none }) (v := ?_) rfl (by kernel_rfl) (by kernel_rfl) (by kernel_rfl) (fun _ _ _ h => h) (Or.inl ⟨by rfl, ?_⟩) (by assumption) ?_
                rotate_left 1
                · (intro w hSw; (try dsimp only at hSw); go_simp)
                  all_goals (try with_reducible rfl)
                try simp only [Act.put, List.setIfInBounds_toArray, List.set_cons_zero, List.set_cons_succ]
                refine wpAnyH_take (i := 5) (oi := { dst := some 56, op := Op.indexAddr 27 (Operand.tmp 54) (Operand.tmp 55), type := 0, pos := "l8_patch.go:261", after := #[{ on := 3, ground := Ground.data }, { on := 4, ground := Ground.data }], guard := none }) (v := ?_) rfl (by kernel_rfl) (by kernel_rfl) (by kernel_rfl) (fun _ _ _ h => h) (Or.inl ⟨by rfl, ?_⟩) (by assumption) ?_
                rotate_left 1
                · (intro w hSw; (try dsimp only at hSw); go_simp)
                  all_goals (try with_reducible rfl)
                try simp only [Act.put, List.setIfInBounds_toArray, List.set_cons_zero, List.set_cons_succ]
                refine wpAnyH_take (i := 6) (oi := { dst := some 57, op := Op.load 29 (Operand.tmp 56), type := 29, pos := "l8_patch.go:261", after := #[{ on := 5, ground := Ground.data }], guard := none }) (v := ?_) rfl (by kernel_rfl) (by kernel_rfl) (by kernel_rfl) (fun _ _ _ h => h) (Or.inl ⟨by rfl, ?_⟩) (by assumption) ?_
                rotate_left 1
                · (intro w hSw; (try dsimp only at hSw); go_simp)
                  all_goals (try with_reducible rfl)
                try simp only [Act.put, List.setIfInBounds_toArray, List.set_cons_zero, List.set_cons_succ]
                refine wpAnyH_ready (rs := [7]) (by kernel_rfl) (by simp) ?_
                refine AllReadyH.cons (o := { dst := some 58, op := Op.call { callee := Callee.value (Operand.func 77), args := #[Operand.tmp 57], argTypes := #[29] }, type := 29, pos := "l8_patch.go:261", after := #[{ on := 6, ground := Ground.data }], guard := none }) rfl (fun K hK => ?_) ?_
                · go_simp
                  (go_at_call 77; refine (Hid.out HCP).mono ?_; (try clear o3 b3 c0 c1 c2 c3 c4); rintro e w4 ⟨p3, n3, p3', n3', rfl, ⟨f3, b3, c0, c1, c2, c3, c4⟩, f3f, hsz4, hA4, HOWN, HB4, HVK⟩)
                  refine hK.out _ _ ?_ (fun hHeld0 => ?_)
                  · try dsimp only
                    go_keep
                  clear hK K hHeld
                  try simp only [Act.put, List.setIfInBounds_toArray, List.set_cons_zero, List.set_cons_succ]
                  refine wpAnyH_ready (rs := [8]) (by kernel_rfl) (by simp) ?_
                  refine AllReadyH.cons (o := { dst := some 59, op := Op.buildSlice 27 1 #[(0, Operand.tmp 58)], type := 27, pos := "l8_patch.go:261", after := #[{ on := 7, ground := Ground.data }], guard := none }) rfl (fun K hK => ?_) ?_
                  · go_simp
                    refine hK.out _ _ ?_ (fun hHeld1 => ?_)
                    · try dsimp only
                      go_keep
                    clear hK K hHeld0
                    try simp only [Act.put, List.setIfInBounds_toArray, List.set_cons_zero, List.set_cons_succ]
                    refine wpAnyH_ready (rs := [9]) (by kernel_rfl) (by simp) ?_
                    refine AllReadyH.cons (o := { dst := some 60, op := Op.call { callee := Callee.builtin Builtin.append, args := #[Operand.tmp 52, Operand.tmp 59], argTypes := #[27, 27] }, type := 27, pos := "l8_patch.go:261", after := #[{ on := 1, ground := Ground.data }, { on := 8, ground := Ground.data }, { on := 7, ground := Ground.chain }], guard := none }) rfl (fun K hK => ?_) ?_
                    · (refine step_append_lies _ (by rfl) _ _ _ (by rfl) (w.heap.size + 4) 29 i0 _ 5 80 Try.underlying27 hi0 hz0 hz1 hz2 rfl (by omega) (.slice x l.length xc) l.length xs (by rfl) (HOWN.out.alloc _) ⟨w4.heap.size, 0, none⟩ 1 1 [.int .i64 v.list[j].kind, .int .i64 v.list[j].num, .string v.list[j].text, .slice p3 v.list[j].list.length n3, .slice p3' v.list[j].names.length n3'] (by rfl) (by rfl) (World.news_of_block (cs := #[.int .i64 v.list[j].kind, .int .i64 v.list[j].num, .string v.list[j].text, .slice p3 v.list[j].list.length n3, .slice p3' v.list[j].names.length n3']) (t := 29) (fr := (0, 0)) (heap_alloc_newS w4 _)) (by simp [Value.oneCell']) (by omega) (by unfold maxLen; omega) (by omega) (by simp; omega) (w4.heap.size + 1) (by simp) ?_; intro g2 cap_g2 w5 hown_g2 hgr_g2 hat_g2 hlt_g2; have HGR5 : Hid _ := hgr_g2; have g3 := HGR5.out.cell (a := ⟨w.heap.size + 1 + 1 + 1, 3, none⟩) ((World.cell?_alloc_lt _ _ _ (cell_lt f3)).trans f3) (HS3.out.gr.far (by (try dsimp only); omega)).1; have h3 := HGR5.out.cell (a := ⟨w.heap.size, 3, none⟩) ((World.cell?_alloc_lt _ _ _ (cell_lt b3)).trans b3) (HS3.out.gr.far (by (try dsimp only); omega)).1; have d0 := HGR5.out.cell (a := ⟨lb, loff + j * 5, none⟩) ((World.cell?_alloc_lt _ _ _ (cell_lt c0)).trans c0) (HS3.out.gr.far (by (try dsimp only); omega)).1; have d1 := HGR5.out.cell (a := ⟨lb, loff + j * 5 + 1, none⟩) ((World.cell?_alloc_lt _ _ _ (cell_lt c1)).trans c1) (HS3.out.gr.far (by (try dsimp only); omega)).1; have d2 := HGR5.out.cell (a := ⟨lb, loff + j * 5 + 2, none⟩) ((World.cell?_alloc_lt _ _ _ (cell_lt c2)).trans c2) (HS3.out.gr.far (by (try dsimp only); omega)).1; have d3 := HGR5.out.cell (a := ⟨lb, loff + j * 5 + 3, none⟩) ((World.cell?_alloc_lt _ _ _ (cell_lt c3)).trans c3) (HS3.out.gr.far (by (try dsimp only); omega)).1; have d4 := HGR5.out.cell (a := ⟨lb, loff + j * 5 + 4, none⟩) ((World.cell?_alloc_lt _ _ _ (cell_lt c4)).trans c4) (HS3.out.gr.far (by (try dsimp only); omega)).1; have f3f' : w5.frozen? ⟨w.heap.size + 1 + 1 + 1, 3, none⟩ = false := (HGR5.out.frozen_far ⟨w.heap.size + 1 + 1 + 1, 3, none⟩ (by simp; omega) NBv.out).trans ((World.frozen?_of_block (w := w4) (Below.heap_alloc _ _ _ (cell_lt f3))).trans f3f); have HOWN5 : Hid _ := hown_g2; have HAT5 : Hid _ := hat_g2; clear hown_g2 hgr_g2 hat_g2)
                      refine hK.out _ _ ?_ (fun hHeld2 => ?_)
                      · try dsimp only
                        go_keep
                      clear hK K hHeld1
                      try simp only [Act.put, List.setIfInBounds_toArray, List.set_cons_zero, List.set_cons_succ]
                      refine wpAnyH_take (i := 10) (oi := { dst := some 61, op := Op.fieldAddr 29 (Operand.tmp 5) 3, type := 0, pos := "l8_patch.go:261", after := #[{ on := 0, ground := Ground.phase }, { on := 1, ground := Ground.phase }, { on := 2, ground := Ground.phase }, { on := 3, ground := Ground.phase }, { on := 4, ground := Ground.phase }, { on := 5, ground := Ground.phase }, { on := 6, ground := Ground.phase }, { on := 7, ground := Ground.phase }, { on := 8, ground := Ground.phase }, { on := 9, ground := Ground.phase }], guard := none }) (v := ?_) rfl (by kernel_rfl) (by kernel_rfl) (by kernel_rfl) (fun _ _ _ h => h) (Or.inl ⟨by rfl, ?_⟩) (by assumption) ?_
                      rotate_left 1
                      · (intro w hSw; (try dsimp only at hSw); go_simp)
                        all_goals (try with_reducible rfl)
                      try simp only [Act.put, List.setIfInBounds_toArray, List.set_cons_zero, List.set_cons_succ]
                      refine wpAnyH_done (by kernel_rfl) ?_ _
                      intro KK hKK
                      go_simp
                      refine hKK _ _ ?_
                      clear hKK KK
                      have HS4 : Hid (MdSt w (w5.setCell ⟨w.heap.size + 3, 3, none⟩ (.slice (some ⟨g2, 0, none⟩) (l.length + 1) cap_g2)) k #[.int .i64 v.kind, .int .i64 v.num, .string v.text, .slice (some ⟨lb, loff, none⟩) v.list.length vc, .slice (some ⟨nb, noff, none⟩) v.names.length vc'] #[.int .i64 m.kind, .int .i64 m.num, .string m.text, .slice ma m.list.length mc, .slice ma' m.names.length mc'] (l ++ [v.list[j]]) (xs ++ [.int .i64 v.list[j].kind, .int .i64 v.list[j].num, .string v.list[j].text, .slice p3 v.list[j].list.length n3, .slice p3' v.list[j].names.length n3']) (ns ++ [v.names[j]]) (some ⟨g2, 0, none⟩) cap_g2 (some ⟨g, 0, none⟩) cap_g) := HS3.out.step rfl HB4.out HVK.out HOWN5.out HGR5.out HAT5.out
                      clear HOWN5 HGR5 HAT5 HVK HB4 HOWN f3 f3f g3 h3 d0 d1 d2 d3 d4 b3 c0 c1 c2 c3 c4 f3f' hsz4 hA4 hlt_g2 HCP
                      go_wp2_with fail
                      exact ⟨⟨j + 1, l ++ [v.list[j]], ns ++ [v.names[j]], xs ++ [.int .i64 v.list[j].kind, .int .i64 v.list[j].num, .string v.list[j].text, .slice p3 v.list[j].list.length n3, .slice p3' v.list[j].names.length n3'], some ⟨g2, 0, none⟩, cap_g2, some ⟨g, 0, none⟩, cap_g, by go_num, by omega, by simp; omega, by simp; omega, HLN2, HNS2, HS4⟩, by simp [intOf]; omega⟩
                    exact AllReadyH.nil
                  exact AllReadyH.nil
                exact AllReadyH.nil
              exact AllReadyH.nil
            exact AllReadyH.nil
      · have hjl : j = (pvOf v).length := by omega
        have HLN1 : Hid (l = ((pvOf v).filter (fun p => (treeO m p.1).isNone)).map (·.2) ∧ ns = ((pvOf v).filter (fun p => (treeO m p.1).isNone)).map (·.1)) := by
          have h := HLN.out
          rw [hjl, List.take_length] at h
          exact h
        have hl12 : l.length ≤ 12 := by
          have h1 : (pvOf v).length ≤ 12 := by
            unfold pvOf
            split
            · unfold prsOf; rw [List.length_zip]; omega
            · exact Nat.zero_le _
          omega
        have hn12 : ns.length ≤ 12 := by
          have h1 : (pvOf v).length ≤ 12 := by
            unfold pvOf
            split
            · unfold prsOf; rw [List.length_zip]; omega
            · exact Nat.zero_le _
          omega
        have HPX : Hid (l = ((pvOf v).filter (fun p => (treeO m p.1).isNone) ++ (saysQ ((prsOf m).take 0)).map (fun p : Pr => (p.1, mdo k (vlOf (treeO v p.1)) p.2))).map (·.2) ∧ ns = ((pvOf v).filter (fun p => (treeO m p.1).isNone) ++ (saysQ ((prsOf m).take 0)).map (fun p : Pr => (p.1, mdo k (vlOf (treeO v p.1)) p.2))).map (·.1)) := by
          obtain ⟨e1, e2⟩ := HLN1.out
          show _ ∧ _
          rw [e1, e2]
          simp [saysQ]
        by_cases h5v : v.kind = 5
        · have hv5 : (v.kind == 5) = true := by simp [h5v]
          have hnl := (HV5.out h5v).1
          have hjn : decide ((j : Int) < (v.names.length : Int)) = false := by
            refine decide_eq_false ?_
            have h1 : (pvOf v).length = v.names.length := by unfold pvOf prsOf; rw [if_pos h5v, List.length_zip, hnl, Nat.min_self]
            omega
          have hjn1 : decide (j < v.names.length) = false := by
            refine decide_eq_false ?_
            have h1 : (pvOf v).length = v.names.length := by unfold pvOf prsOf; rw [if_pos h5v, List.length_zip, hnl, Nat.min_self]
            omega
          have hjn2 : ¬ j < v.names.length := of_decide_eq_false hjn1
          have HV5T : Hid (v.kind = 5) := h5v
          clear h5v hnl hjl
          go_wp2_with fail
          clear b0 b1 b2 b3 b4 hszr
          go_loopw [9] (fun i wr => ∃ (j : Nat) (l : List Vl) (ns : List ByteArray) (xs : List Value) (x : Option Addr) (xc : Nat) (y : Option Addr) (yc : Nat), i = .int .i64 (j : Int) ∧ j ≤ (prsOf m).length ∧ l.length ≤ 12 + j ∧ ns.length ≤ 12 + j ∧ Hid (l = ((pvOf v).filter (fun p => (treeO m p.1).isNone) ++ (saysQ ((prsOf m).take j)).map (fun p : Pr => (p.1, mdo k (vlOf (treeO v p.1)) p.2))).map (·.2) ∧ ns = ((pvOf v).filter (fun p => (treeO m p.1).isNone) ++ (saysQ ((prsOf m).take j)).map (fun p : Pr => (p.1, mdo k (vlOf (treeO v p.1)) p.2))).map (·.1)) ∧ Hid (∀ s ∈ ns, s.size ≤ 140737488351232) ∧ Hid (MdSt w wr k #[.int .i64 v.kind, .int .i64 v.num, .string v.text, .slice va v.list.length vc, .slice va' v.names.length vc'] #[.int .i64 m.kind, .int .i64 m.num, .string m.text, .slice ma m.list.length mc, .slice ma' m.names.length mc'] l xs ns x xc y yc)) (fun i _ => (prsOf m).length - (intOf i).toNat)
          case atStart => exact ⟨0, l, ns, xs, x, xc, y, yc, rfl, Nat.zero_le _, by omega, by omega, HPX, HNS, HST⟩
          case round =>
            clear HPX HNS HST HLN1 HLN hl12 hn12 hlj hnj HKr hj
            clear hlt
            obtain ⟨j, l, ns, xs, x, xc, y, yc, rfl, hj, hlj, hnj, HLN, HNS, HST⟩ := hrel
            have HKr : Hid (Keeps 0 w wr) := Keeps.of_below HST.out.bel (Nat.le_refl _) 0
            have hszr := HST.out.sz
            have hpml : (prsOf m).length = m.names.length := by unfold prsOf; rw [List.length_zip, HM5.out, Nat.min_self]
            have hmn12 : m.names.length ≤ 12 := by rw [HM5.out]; exact hml
            obtain ⟨m0, m1, m2, m3, m4⟩ := five_ofQ HST.out.bm.cell
            by_cases hlt : j < (prsOf m).length
            · have hmnl := HM5.out
              have hltn : j < m.names.length := by omega
              have hltl : j < m.list.length := by omega
              have hltni : (j : Int) < (m.names.length : Int) := by omega
              have hltli : (j : Int) < (m.list.length : Int) := by omega
              have hpj : (prsOf m)[j] = (m.names[j], m.list[j]) := by simp [prsOf]
              have HSN : Hid (saysQ ((prsOf m).take (j + 1)) = saysQ ((prsOf m).take j) ++ (if decide (m.list[j].kind ≠ 0) then [(m.names[j], m.list[j])] else [])) := by
                have h := filter_snoc hlt (fun p : Pr => decide (p.2.kind ≠ 0))
                rw [hpj] at h
                exact h
              have HOMJ : Hid (okB false k m.list[j] = true) := ok_kid HOM.out (List.getElem_mem hltl)
              have hk0 : 0 < k := by
                have h1 := HOMJ.out
                cases k with
                | zero => simp [okB] at h1
                | succ k => omega
              obtain ⟨vl, vn, e, _, _, _, hrow, hnames⟩ := HM.out w (Keeps.refl _ _)
              simp only [List.cons.injEq, true_and, and_true] at e
              obtain ⟨rfl, rfl⟩ := e
              obtain ⟨a', c', hv', _, hr⟩ := StrRow.len hnames
              obtain ⟨nb, noff, rfl, _, hcs⟩ := hr (List.ne_nil_of_length_pos (by omega))
              simp only [Value.slice.injEq, true_and] at hv'
              obtain ⟨rfl, rfl⟩ := hv'
              obtain ⟨s0', hs0⟩ := hcs j hltn
              obtain ⟨la, lc, hlv, _, hlr⟩ := Row.len hrow
              obtain ⟨lb, loff, rfl, _, hlcs⟩ := hlr (List.ne_nil_of_length_pos (by omega))
              simp only [Value.slice.injEq, true_and] at hlv
              obtain ⟨rfl, rfl⟩ := hlv
              obtain ⟨cs, _, hlc, hlq⟩ := hlcs j hltl
              obtain ⟨q1, e1, q1', e1', rfl⟩ := hlq.cells
              have HC5 : Hid (∀ W, Below w.heap.size w W → W.cell? ⟨nb, noff + j, none⟩ = some (.string m.names[j]) ∧ W.cell? ⟨lb, loff + j * 5, none⟩ = some (.int .i64 m.list[j].kind) ∧ W.cell? ⟨lb, loff + j * 5 + 1, none⟩ = some (.int .i64 m.list[j].num) ∧ W.cell? ⟨lb, loff + j * 5 + 2, none⟩ = some (.string m.list[j].text) ∧ W.cell? ⟨lb, loff + j * 5 + 3, none⟩ = some (.slice q1 m.list[j].list.length e1) ∧ W.cell? ⟨lb, loff + j * 5 + 4, none⟩ = some (.slice q1' m.list[j].names.length e1') ∧ nb < W.heap.size ∧ lb < W.heap.size) := fun W h => by
                obtain ⟨c0, c1, c2, c3, c4⟩ := hlc.five
                have hk := h.size
                have h1 := cell_lt s0'
                have h2 := cell_lt c0
                exact ⟨cell_on h s0', cell_on h c0, cell_on h c1, cell_on h c2, cell_on h c3, cell_on h c4, by simp only at h1; omega, by simp only at h2; omega⟩
              have HNB : Hid (nb < w.heap.size ∧ lb < w.heap.size) := ⟨(HC5.out w (Below.refl _ _)).2.2.2.2.2.2.1, (HC5.out w (Below.refl _ _)).2.2.2.2.2.2.2⟩
              have HCJ : Hid (∀ W, Keeps 0 w W → VlR W 0 k m.list[j] [.int .i64 m.list[j].kind, .int .i64 m.list[j].num, .string m.list[j].text, .slice q1 m.list[j].list.length e1, .slice q1' m.list[j].names.length e1']) := fun W h => VlR.keeps h _ _ _ hlq
              obtain ⟨s0, c0, _, _, _, _, hsn, _⟩ := HC5.out wr HST.out.bel
              have HS0 : Hid (m.names[j].size ≤ 140737488351232) := hs0
              clear hrow hnames hr hcs hlr hlcs hlc hlq s0' hpj hmnl
              by_cases hkj : m.list[j].kind = 0
              · have hke : (m.list[j].kind == 0) = true := by simp [hkj]
                have HLN2 : Hid (l = ((pvOf v).filter (fun p => (treeO m p.1).isNone) ++ (saysQ ((prsOf m).take (j + 1))).map (fun p : Pr => (p.1, mdo k (vlOf (treeO v p.1)) p.2))).map (·.2) ∧ ns = ((pvOf v).filter (fun p => (treeO m p.1).isNone) ++ (saysQ ((prsOf m).take (j + 1))).map (fun p : Pr => (p.1, mdo k (vlOf (treeO v p.1)) p.2))).map (·.1)) := by
                  show _ ∧ _
                  rw [HSN.out, if_neg (by simp [hkj]), List.append_nil]
                  exact HLN.out
                clear hkj
                obtain ⟨vv0, vv1, vv2, vv3, vv4⟩ := five_ofQ HST.out.bv.cell
                go_wp2_with fail
                exact ⟨⟨j + 1, l, ns, xs, x, xc, y, yc, by go_num, by omega, by omega, by omega, HLN2, HNS, HST⟩, by simp [intOf]; omega⟩
              · have hke : (m.list[j].kind == 0) = false := by simp [hkj]
                have HKJ : Hid (decide (m.list[j].kind ≠ 0) = true) := decide_eq_true hkj
                clear hkj
                obtain ⟨vv0, vv1, vv2, vv3, vv4⟩ := five_ofQ HST.out.bv.cell
                have hAr0 : w.heap.size < wr.heap.size := by omega
                have hAr1 : w.heap.size + 1 < wr.heap.size := by omega
                obtain ⟨X, hX⟩ : ∃ X, vlOf (treeO v m.names[j]) = X := ⟨_, rfl⟩
                have HXQ : Hid (vlOf (treeO v m.names[j]) = X) := hX
                obtain ⟨bq, hbq⟩ : ∃ bq, (treeO v m.names[j]).isSome = bq := ⟨_, rfl⟩
                have HLT : Hid (∀ W, Hid (Below wr.heap.size wr W) → Calls Try.prog 74 #[.agg #[.int .i64 v.kind, .int .i64 v.num, .string v.text, .slice va v.list.length vc, .slice va' v.names.length vc'], .string m.names[j]] W fun e w1 => ∃ (p2 : Option Addr) (n2 : Nat) (p2' : Option Addr) (n2' : Nat), e = .returned (.tuple #[.agg #[.int .i64 X.kind, .int .i64 X.num, .string X.text, .slice p2 X.list.length n2, .slice p2' X.names.length n2'], .bool bq]) ∧ ((w1.cell? ⟨w.heap.size, 0, none⟩ = some (.int .i64 v.kind) ∧ w1.cell? ⟨w.heap.size, 1, none⟩ = some (.int .i64 v.num) ∧ w1.cell? ⟨w.heap.size, 2, none⟩ = some (.string v.text) ∧ w1.cell? ⟨w.heap.size, 3, none⟩ = some (.slice va v.list.length vc) ∧ w1.cell? ⟨w.heap.size, 4, none⟩ = some (.slice va' v.names.length vc')) ∧ w1.cell? ⟨w.heap.size + 1, 4, none⟩ = some (.slice (some ⟨nb, noff, none⟩) m.names.length mc') ∧ w1.cell? ⟨nb, noff + j, none⟩ = some (.string m.names[j])) ∧ Hid (VlR w 0 k X [.int .i64 X.kind, .int .i64 X.num, .string X.text, .slice p2 X.list.length n2, .slice p2' X.names.length n2']) ∧ Hid (Below wr.heap.size wr w1) ∧ Hid (Below W.heap.size W w1)) := fun W hB => tree_told (w0 := wr) (wo := w) (C := fun W => (W.cell? ⟨w.heap.size, 0, none⟩ = some (.int .i64 v.kind) ∧ W.cell? ⟨w.heap.size, 1, none⟩ = some (.int .i64 v.num) ∧ W.cell? ⟨w.heap.size, 2, none⟩ = some (.string v.text) ∧ W.cell? ⟨w.heap.size, 3, none⟩ = some (.slice va v.list.length vc) ∧ W.cell? ⟨w.heap.size, 4, none⟩ = some (.slice va' v.names.length vc')) ∧ W.cell? ⟨w.heap.size + 1, 4, none⟩ = some (.slice (some ⟨nb, noff, none⟩) m.names.length mc') ∧ W.cell? ⟨nb, noff + j, none⟩ = some (.string m.names[j])) k hk0 (by rw [(HV5.out HV5T.out).1]; exact Nat.le_refl _) hs0 (fun W h => ⟨⟨cell_on h vv0, cell_on h vv1, cell_on h vv2, cell_on h vv3, cell_on h vv4⟩, cell_on h m4, cell_on h s0⟩) hB (HKr.out.trans (Keeps.of_below hB.out (Nat.le_refl _) 0)) (HV.out w (Keeps.refl _ _)) hX hbq
                have HBz : Hid (Below wr.heap.size wr (wr.alloc (Obj.cells #[.int .i64 0, .int .i64 0, .string ⟨#[]⟩, .slice none 0 0, .slice none 0 0] 29)).drew) := ((Below.refl _ wr).alloc (Nat.le_refl _) _).drew
                have hmne : w.heap.size + 1 ≠ wr.heap.size := by omega
                have hvne : w.heap.size ≠ wr.heap.size := by omega
                have hnne : nb ≠ wr.heap.size := Nat.ne_of_lt hsn
                clear hX hbq
                go_wp2_with fail
                go_region_held3 (fun w' => (w'.cell? ⟨w.heap.size, 0, none⟩ = some (.int .i64 v.kind) ∧ w'.cell? ⟨w.heap.size, 1, none⟩ = some (.int .i64 v.num) ∧ w'.cell? ⟨w.heap.size, 2, none⟩ = some (.string v.text) ∧ w'.cell? ⟨w.heap.size, 3, none⟩ = some (.slice va v.list.length vc) ∧ w'.cell? ⟨w.heap.size, 4, none⟩ = some (.slice va' v.names.length vc')) ∧ w'.cell? ⟨w.heap.size + 1, 4, none⟩ = some (.slice (some ⟨nb, noff, none⟩) m.names.length mc') ∧ w'.cell? ⟨nb, noff + j, none⟩ = some (.string m.names[j])) (first | go_keep | exact ⟨⟨far5Q hvne m0, far5Q hvne m1, far5Q hvne m2, far5Q hvne m3, far5Q hvne m4⟩, far5Q hmne b4, far5Q hnne s0⟩) ((go_at_call 74; refine (Hid.out HLT _ HBz).mono ?_; (try clear m0 m1 m2 m3 m4 b4 s0); rintro e wT ⟨p2, n2, p2', n2', rfl, ⟨⟨m0, m1, m2, m3, m4⟩, b4, s0⟩, HRT, HBT, HBT2⟩; have HZ := newbox_keptQ HBT2; obtain ⟨⟨z0, z1, z2, z3, z4⟩, zf, zn⟩ := HZ))
                obtain ⟨WN, hWN⟩ : ∃ WN, WN = (((((wT.setCell ⟨wr.heap.size, 0, none⟩ (.int .i64 X.kind)).setCell ⟨wr.heap.size, 1, none⟩ (.int .i64 X.num)).setCell ⟨wr.heap.size, 2, none⟩ (.string X.text)).setCell ⟨wr.heap.size, 3, none⟩ (.slice p2 X.list.length n2)).setCell ⟨wr.heap.size, 4, none⟩ (.slice p2' X.names.length n2')) := ⟨_, rfl⟩
                rw [← hWN]
                have HBN : Hid (Below wr.heap.size wr WN) := by rw [hWN]; exact below5Q (Nat.le_refl _) HBT.out
                have HXR : Hid (VlR w 0 k X [.int .i64 X.kind, .int .i64 X.num, .string X.text, .slice p2 X.list.length n2, .slice p2' X.names.length n2']) := HRT
                obtain ⟨xb, hxb⟩ : ∃ xb, wr.heap.size = xb := ⟨_, rfl⟩
                have HXB : Hid (Owns WN xb #[.int .i64 X.kind, .int .i64 X.num, .string X.text, .slice p2 X.list.length n2, .slice p2' X.names.length n2'] 29) := by
                  have h0 : Owns wT wr.heap.size #[.int .i64 0, .int .i64 0, .string ⟨#[]⟩, .slice none 0 0, .slice none 0 0] 29 := ((Owns.made wr #[.int .i64 0, .int .i64 0, .string ⟨#[]⟩, .slice none 0 0, .slice none 0 0] 29).below (show Below (wr.alloc (Obj.cells #[.int .i64 0, .int .i64 0, .string ⟨#[]⟩, .slice none 0 0, .slice none 0 0] 29)).heap.size (wr.alloc (Obj.cells #[.int .i64 0, .int .i64 0, .string ⟨#[]⟩, .slice none 0 0, .slice none 0 0] 29)) wT from ((Below.refl _ _).drew).trans HBT2.out) (by simp))
                  rw [← hxb]
                  show Owns _ _ _ _
                  rw [hWN]
                  exact ((((h0.set 0 _).set 1 _).set 2 _).set 3 _).set 4 _
                rw [hxb]
                clear hWN HBT HBT2 HRT z0 z1 z2 z3 z4 zf zn m0 m1 m2 m3 m4 b4 s0 vv0 vv1 vv2 vv3 vv4 hmne hvne hnne HLT HBz hsn
                clear hke c0
                have HS1 : Hid (MdSt w WN k #[.int .i64 v.kind, .int .i64 v.num, .string v.text, .slice va v.list.length vc, .slice va' v.names.length vc'] #[.int .i64 m.kind, .int .i64 m.num, .string m.text, .slice (some ⟨lb, loff, none⟩) m.list.length mc, .slice (some ⟨nb, noff, none⟩) m.names.length mc'] l xs ns x xc y yc) := HST.out.on HBN.out
                have hszN := HS1.out.sz
                have hxb4 : w.heap.size + 4 ≤ xb := by rw [← hxb]; exact hszr
                have HNX : Hid (some xb ≠ (Value.slice y ns.length yc).ownBlock) := fun he => by have h := (HST.out.gr.nown.lt xb he.symm).2; omega
                have HLX : Hid (some xb ≠ (Value.slice x l.length xc).ownBlock) := fun he => by have h := (HST.out.gr.own.lt xb he.symm).2; omega
                obtain ⟨s0, _, _, _, _, _, hAn, _⟩ := HC5.out WN HS1.out.bel
                have HOX : Hid (okB false k X = true) := by have h := ok_vlOf (s := m.names[j]) HOV.out hk0; rw [HXQ.out] at h; exact h
                obtain ⟨u, hu⟩ : ∃ u, mdo k X m.list[j] = u := ⟨_, rfl⟩
                have HU : Hid (mdo k X m.list[j] = u) := hu
                have HLN2 : Hid (l ++ [u] = ((pvOf v).filter (fun p => (treeO m p.1).isNone) ++ (saysQ ((prsOf m).take (j + 1))).map (fun p : Pr => (p.1, mdo k (vlOf (treeO v p.1)) p.2))).map (·.2) ∧ ns ++ [m.names[j]] = ((pvOf v).filter (fun p => (treeO m p.1).isNone) ++ (saysQ ((prsOf m).take (j + 1))).map (fun p : Pr => (p.1, mdo k (vlOf (treeO v p.1)) p.2))).map (·.1)) := by
                  obtain ⟨e1, e2⟩ := HLN.out
                  have e3 : (saysQ ((prsOf m).take (j + 1))).map (fun p : Pr => (p.1, mdo k (vlOf (treeO v p.1)) p.2)) = (saysQ ((prsOf m).take j)).map (fun p : Pr => (p.1, mdo k (vlOf (treeO v p.1)) p.2)) ++ [(m.names[j], u)] := by
                    rw [HSN.out, if_pos HKJ.out, List.map_append]
                    simp only [List.map_cons, List.map_nil]
                    rw [HXQ.out, hu]
                  show _ ∧ _
                  rw [e3, ← List.append_assoc]
                  exact ⟨by rw [List.map_append, ← e1]; rfl, by rw [List.map_append, ← e2]; rfl⟩
                have HNS2 : Hid (∀ s ∈ ns ++ [m.names[j]], s.size ≤ 140737488351232) := fun s hs => by
                  rcases List.mem_append.1 hs with h | h
                  · exact HNS.out s h
                  · simp only [List.mem_singleton] at h; rw [h]; exact HS0.out
                have NBn : Hid (some (w.heap.size + 3) ≠ (Value.slice y ns.length yc).ownBlock) := (HS1.out.gr.far (by omega)).2
                clear hu hxb
                obtain ⟨o0, o1, o2, o3, o4⟩ := out_box HS1.out.bo
                have of := out_frozen HS1.out.bo
                obtain ⟨b0, b1, b2, b3, b4⟩ := five_ofQ HS1.out.bm.cell
                have hns24 : ns.length ≤ 24 := by omega
                have hA0 : w.heap.size < WN.heap.size := by omega
                have hA1 : w.heap.size + 1 < WN.heap.size := by omega
                have hA3 : w.heap.size + 1 + 1 + 1 < WN.heap.size := cell_lt o4
                have hnbw : nb < w.heap.size := HNB.out.1
                have hlbw : lb < w.heap.size := HNB.out.2
                have HS9 : Hid _ := HS1
                go_wp2_with fail
                refine wp_region_last 10 _ rfl (fun w' => w'.cell? ⟨w.heap.size + 1 + 1 + 1, 4, none⟩ = some (.slice y ns.length yc) ∧ w'.cell? ⟨w.heap.size + 1, 4, none⟩ = some (.slice (some ⟨nb, noff, none⟩) m.names.length mc') ∧ w'.cell? ⟨nb, noff + j, none⟩ = some (.string m.names[j])) (by kernel_rfl) rfl (by kernel_rfl) ?_ (fun hHeld => ?_)
                · try dsimp only
                  go_keep
                refine wpAnyH_take (i := 0) (oi := { dst := some 90, op := Op.fieldAddr 29 (Operand.tmp 5) 4, type := 0, pos := "l8_patch.go:272", after := #[], guard := none }) (v := ?_) rfl (by kernel_rfl) (by kernel_rfl) (by kernel_rfl) (fun _ _ _ h => h) (Or.inl ⟨by rfl, ?_⟩) (by assumption) ?_
                rotate_left 1
                · (intro w hSw; (try dsimp only at hSw); go_simp)
                  all_goals (try with_reducible rfl)
                try simp only [Act.put, List.setIfInBounds_toArray, List.set_cons_zero, List.set_cons_succ]
                refine wpAnyH_take (i := 1) (oi := { dst := some 91, op := Op.load 23 (Operand.tmp 90), type := 23, pos := "l8_patch.go:272", after := #[{ on := 0, ground := Ground.data }], guard := none }) (v := ?_) rfl (by kernel_rfl) (by kernel_rfl) (by kernel_rfl) (fun _ _ _ h => h) (Or.inl ⟨by rfl, ?_⟩) (by assumption) ?_
                rotate_left 1
                · (intro w hSw; (try dsimp only at hSw); go_simp)
                  all_goals (try with_reducible rfl)
                try simp only [Act.put, List.setIfInBounds_toArray, List.set_cons_zero, List.set_cons_succ]
                refine wpAnyH_take (i := 2) (oi := { dst := some 92, op := Op.fieldAddr 29 (Operand.tmp 3) 4, type := 0, pos := "l8_patch.go:272", after := #[], guard := none }) (v := ?_) rfl (by kernel_rfl) (by kernel_rfl) (by kernel_rfl) (fun _ _ _ h => h) (Or.inl ⟨by rfl, ?_⟩) (by assumption) ?_
                rotate_left 1
                · (intro w hSw; (try dsimp only at hSw); go_simp)
                  all_goals (try with_reducible rfl)
                try simp only [Act.put, List.setIfInBounds_toArray, List.set_cons_zero, List.set_cons_succ]
                refine wpAnyH_take (i := 3) (oi := { dst := some 93, op := Op.load 23 (Operand.tmp 92), type := 23, pos := "l8_patch.go:272", after := #[{ on := 2, ground := Ground.data }], guard := none }) (v := ?_) rfl (by kernel_rfl) (by kernel_rfl) (by kernel_rfl) (fun _ _ _ h => h) (Or.inl ⟨by rfl, ?_⟩) (by assumption) ?_
                rotate_left 1
                · (intro w hSw; (try dsimp only at hSw); go_simp)
                  all_goals (try with_reducible rfl)
                try simp only [Act.put, List.setIfInBounds_toArray, List.set_cons_zero, List.set_cons_succ]
                refine wpAnyH_take (i := 4) (oi := { dst := some 94, op := Op.move (Operand.tmp 9), type := 3, pos := "l8_patch.go:272", after := #[], guard := none }) (v := ?_) rfl (by kernel_rfl) (by kernel_rfl) (by kernel_rfl) (fun _ _ _ h => h) (Or.inl ⟨by rfl, ?_⟩) (by assumption) ?_
                rotate_left 1
                · (intro w hSw; (try dsimp only at hSw); go_simp)
                  all_goals (try with_reducible rfl)
                try simp only [Act.put, List.setIfInBounds_toArray, List.set_cons_zero, List.set_cons_succ]
                refine wpAnyH_take (i := 5) (oi := { dst := some 95, op := Op.indexAddr 23 (Operand.tmp 93) (Operand.tmp 94), type := 0, pos := "l8_patch.go:272", after := #[{ on := 3, ground := Ground.data }, { on := 4, ground := Ground.data }], guard := none }) (v := ?_) rfl (by kernel_rfl) (by kernel_rfl) (by kernel_rfl) (fun _ _ _ h => h) (Or.inl ⟨by rfl, ?_⟩) (by assumption) ?_
                rotate_left 1
                · (intro w hSw; (try dsimp only at hSw); go_simp)
                  all_goals (try with_reducible rfl)
                try simp only [Act.put, List.setIfInBounds_toArray, List.set_cons_zero, List.set_cons_succ]
                refine wpAnyH_take (i := 6) (oi := { dst := some 96, op := Op.load 9 (Operand.tmp 95), type := 9, pos := "l8_patch.go:272", after := #[{ on := 5, ground := Ground.data }], guard := none }) (v := ?_) rfl (by kernel_rfl) (by kernel_rfl) (by kernel_rfl) (fun _ _ _ h => h) (Or.inl ⟨by rfl, ?_⟩) (by assumption) ?_
                rotate_left 1
                · (intro w hSw; (try dsimp only at hSw); go_simp)
                  all_goals (try with_reducible rfl)
                try simp only [Act.put, List.setIfInBounds_toArray, List.set_cons_zero, List.set_cons_succ]
                refine wpAnyH_ready (rs := [7]) (by kernel_rfl) (by simp) ?_
                refine AllReadyH.cons (o := { dst := some 97, op := Op.buildSlice 23 1 #[(0, Operand.tmp 96)], type := 23, pos := "l8_patch.go:272", after := #[{ on := 6, ground := Ground.data }], guard := none }) rfl (fun K hK => ?_) ?_
                · go_simp
                  refine hK.out _ _ ?_ (fun hHeld0 => ?_)
                  · try dsimp only
                    go_keep
                  clear hK K hHeld
                  try simp only [Act.put, List.setIfInBounds_toArray, List.set_cons_zero, List.set_cons_succ]
                  refine wpAnyH_ready (rs := [8]) (by kernel_rfl) (by simp) ?_
                  refine AllReadyH.cons (o := { dst := some 98, op := Op.call { callee := Callee.builtin Builtin.append, args := #[Operand.tmp 91, Operand.tmp 97], argTypes := #[23, 23] }, type := 23, pos := "l8_patch.go:272", after := #[{ on := 1, ground := Ground.data }, { on := 7, ground := Ground.data }], guard := none }) rfl (fun K hK => ?_) ?_
                  · (refine step_append_lies _ (by rfl) _ _ _ (by rfl) (w.heap.size + 4) 9 i1 _ 1 16 Try.underlying23 hj0 hy0 hy1 hy2 rfl (by omega) (.slice y ns.length yc) ns.length (ns.map Value.string) (by rfl) (HS1.out.gr.nown.alloc _) ⟨WN.heap.size, 0, none⟩ 1 1 [.string m.names[j]] (by rfl) (by rfl) (World.news_of_block (cs := #[.string m.names[j]]) (t := 9) (fr := (0, 0)) (heap_alloc_newS WN _)) (by simp [Value.oneCell']) (by omega) (by unfold maxLen; omega) (by omega) (by simp; omega) (WN.heap.size + 1) (by simp) ?_; intro g cap_g w3 hown_g hgr_g hat_g hlt_g; have HGR3 : Hid (((WN.alloc (Obj.cells #[.string m.names[j]] 9))).grownBy w3 (Value.slice y ns.length yc).ownBlock) := grown_drewM hgr_g; have f4 := HGR3.out.cell (a := ⟨w.heap.size + 1 + 1 + 1, 4, none⟩) ((World.cell?_alloc_lt _ _ _ (cell_lt o4)).trans o4) (HS9.out.gr.far (by (try dsimp only); omega)).2; have g4 := HGR3.out.cell (a := ⟨w.heap.size + 1, 4, none⟩) ((World.cell?_alloc_lt _ _ _ (cell_lt b4)).trans b4) (HS9.out.gr.far (by (try dsimp only); omega)).2; have gs := HGR3.out.cell (a := ⟨nb, noff + j, none⟩) ((World.cell?_alloc_lt _ _ _ (cell_lt s0)).trans s0) (HS9.out.gr.far (by (try dsimp only); omega)).2; have f4f : w3.frozen? ⟨w.heap.size + 1 + 1 + 1, 4, none⟩ = false := (HGR3.out.frozen_far ⟨w.heap.size + 1 + 1 + 1, 4, none⟩ (by simp; omega) NBn.out).trans ((World.frozen?_of_block (w := WN) (Below.heap_alloc _ _ _ (cell_lt o4))).trans (of 4)); have HOWN3 : Hid _ := hown_g; have HAT3 : Hid _ := hat_g; clear hown_g hgr_g hat_g)
                    refine hK.out _ _ ?_ (fun hHeld1 => ?_)
                    · try dsimp only
                      go_keep
                    clear hK K hHeld0
                    try simp only [Act.put, List.setIfInBounds_toArray, List.set_cons_zero, List.set_cons_succ]
                    refine wpAnyH_take (i := 9) (oi := { dst := some 99, op := Op.fieldAddr 29 (Operand.tmp 5) 4, type := 0, pos := "l8_patch.go:272", after := #[{ on := 0, ground := Ground.phase }, { on := 1, ground := Ground.phase }, { on := 2, ground := Ground.phase }, { on := 3, ground := Ground.phase }, { on := 4, ground := Ground.phase }, { on := 5, ground := Ground.phase }, { on := 6, ground := Ground.phase }, { on := 7, ground := Ground.phase }, { on := 8, ground := Ground.phase }], guard := none }) (v := ?_) rfl (by kernel_rfl) (by kernel_rfl) (by kernel_rfl) (fun _ _ _ h => h) (Or.inl ⟨by rfl, ?_⟩) (by assumption) ?_
                    rotate_left 1
                    · (intro w hSw; (try dsimp only at hSw); go_simp)
                      all_goals (try with_reducible rfl)
                    try simp only [Act.put, List.setIfInBounds_toArray, List.set_cons_zero, List.set_cons_succ]
                    refine wpAnyH_done (by kernel_rfl) ?_ _
                    intro KK hKK
                    go_simp
                    refine hKK _ _ ?_
                    clear hKK KK
                    obtain ⟨W3, hW3⟩ : ∃ W3, W3 = w3.setCell ⟨w.heap.size + 1 + 1 + 1, 4, none⟩ (.slice (some ⟨g, 0, none⟩) (ns.length + 1) cap_g) := ⟨_, rfl⟩
                    rw [← hW3]
                    have HS3 : Hid (MdSt w W3 k #[.int .i64 v.kind, .int .i64 v.num, .string v.text, .slice va v.list.length vc, .slice va' v.names.length vc'] #[.int .i64 m.kind, .int .i64 m.num, .string m.text, .slice (some ⟨lb, loff, none⟩) m.list.length mc, .slice (some ⟨nb, noff, none⟩) m.names.length mc'] l xs (ns ++ [m.names[j]]) x xc (some ⟨g, 0, none⟩) cap_g) := by rw [hW3]; exact HS1.out.name HOWN3.out HGR3.out HAT3.out
                    have HXB3 : Hid (Owns W3 xb #[.int .i64 X.kind, .int .i64 X.num, .string X.text, .slice p2 X.list.length n2, .slice p2' X.names.length n2'] 29) := by
                      have h0 := HXB.out.lt
                      have h1 : w3.heap[xb]? = WN.heap[xb]? := by
                        rw [HGR3.out.block xb (by simp; omega) HNX.out, Below.heap_alloc _ _ _ h0]
                      show Owns _ _ _ _
                      rw [hW3]
                      exact HXB.out.sameQ ((Below.heap_setCell _ _ _ _ (by dsimp only; omega)).trans h1)
                    clear hW3 HOWN3 HGR3 HAT3 f4 f4f g4 gs hlt_g o0 o1 o2 o3 o4 of b0 b1 b2 b3 b4 s0 hA0 hA1 hA3 hAn NBn
                    have NBv : Hid (some (w.heap.size + 3) ≠ (Value.slice x l.length xc).ownBlock) := (HS3.out.gr.far (by omega)).1
                    obtain ⟨_, _, _, o3, _⟩ := out_box HS3.out.bo
                    have of := out_frozen HS3.out.bo
                    have hsz3 := HS3.out.sz
                    obtain ⟨_, c0, c1, c2, c3, c4, _, hlbW⟩ := HC5.out W3 HS3.out.bel
                    obtain ⟨b0, b1, b2, b3, b4⟩ := five_ofQ HS3.out.bm.cell
                    obtain ⟨x0, x1, x2, x3, x4⟩ := five_ofQ HXB3.out.cell
                    have HXF : Hid (some xb ≠ (Value.slice x l.length xc).ownBlock) := HLX
                    have HCP : Hid (Calls Try.prog 53 #[.agg #[.int .i64 X.kind, .int .i64 X.num, .string X.text, .slice p2 X.list.length n2, .slice p2' X.names.length n2'], .agg #[.int .i64 m.list[j].kind, .int .i64 m.list[j].num, .string m.list[j].text, .slice q1 m.list[j].list.length e1, .slice q1' m.list[j].names.length e1']] W3.drew fun e w4 => ∃ (p3 : Option Addr) (n3 : Nat) (p3' : Option Addr) (n3' : Nat), e = .returned (.agg #[.int .i64 u.kind, .int .i64 u.num, .string u.text, .slice p3 u.list.length n3, .slice p3' u.names.length n3']) ∧ (w4.cell? ⟨w.heap.size + 1 + 1 + 1, 3, none⟩ = some (.slice x l.length xc) ∧ w4.cell? ⟨w.heap.size + 1, 3, none⟩ = some (.slice (some ⟨lb, loff, none⟩) m.list.length mc) ∧ w4.cell? ⟨lb, loff + j * 5, none⟩ = some (.int .i64 m.list[j].kind) ∧ w4.cell? ⟨lb, loff + j * 5 + 1, none⟩ = some (.int .i64 m.list[j].num) ∧ w4.cell? ⟨lb, loff + j * 5 + 2, none⟩ = some (.string m.list[j].text) ∧ w4.cell? ⟨lb, loff + j * 5 + 3, none⟩ = some (.slice q1 m.list[j].list.length e1) ∧ w4.cell? ⟨lb, loff + j * 5 + 4, none⟩ = some (.slice q1' m.list[j].names.length e1') ∧ w4.cell? ⟨xb, 0, none⟩ = some (.int .i64 X.kind) ∧ w4.cell? ⟨xb, 1, none⟩ = some (.int .i64 X.num) ∧ w4.cell? ⟨xb, 2, none⟩ = some (.string X.text) ∧ w4.cell? ⟨xb, 3, none⟩ = some (.slice p2 X.list.length n2) ∧ w4.cell? ⟨xb, 4, none⟩ = some (.slice p2' X.names.length n2')) ∧ w4.frozen? ⟨w.heap.size + 1 + 1 + 1, 3, none⟩ = false ∧ w.heap.size + 4 ≤ w4.heap.size ∧ w.heap.size + 1 + 1 + 1 < w4.heap.size ∧ Hid (w4.ownsRow (w.heap.size + 4) 29 5 (.slice x l.length xc) l.length xs) ∧ Hid (Below W3.heap.size W3 w4) ∧ Hid (VlK w4 W3.heap.size w4.heap.size k u [.int .i64 u.kind, .int .i64 u.num, .string u.text, .slice p3 u.list.length n3, .slice p3' u.names.length n3'])) := by
                      have hc := ih X m.list[j] _ _ _ _ W3.drew (VlR.keeps (Keeps.of_below HS3.out.bel (Nat.le_refl _) 0).drew _ _ _ HXR.out) (HCJ.out _ (Keeps.of_below HS3.out.bel (Nat.le_refl _) 0).drew) HOX.out HOMJ.out
                      rw [HU.out] at hc
                      refine hc.mono ?_
                      rintro e w4 ⟨p3, n3, p3', n3', rfl, hK, hb4⟩
                      have hb4' : Below W3.heap.size W3 w4 := (Below.refl _ W3).drew.trans hb4
                      have h4 := HS3.out.on hb4'
                      exact ⟨p3, n3, p3', n3', rfl, ⟨(out_box h4.bo).2.2.2.1, (five_ofQ h4.bm.cell).2.2.2.1, cell_on hb4' c0, cell_on hb4' c1, cell_on hb4' c2, cell_on hb4' c3, cell_on hb4' c4, cell_on hb4' x0, cell_on hb4' x1, cell_on hb4' x2, cell_on hb4' x3, cell_on hb4' x4⟩, out_frozen h4.bo 3, h4.sz, h4.sz, h4.gr.own, hb4', hK⟩
                    go_wp2_with fail
                    refine wp_region_last 12 _ rfl (fun w' => w'.cell? ⟨w.heap.size + 1 + 1 + 1, 3, none⟩ = some (.slice x l.length xc) ∧ w'.cell? ⟨w.heap.size + 1, 3, none⟩ = some (.slice (some ⟨lb, loff, none⟩) m.list.length mc) ∧ w'.cell? ⟨lb, loff + j * 5, none⟩ = some (.int .i64 m.list[j].kind) ∧ w'.cell? ⟨lb, loff + j * 5 + 1, none⟩ = some (.int .i64 m.list[j].num) ∧ w'.cell? ⟨lb, loff + j * 5 + 2, none⟩ = some (.string m.list[j].text) ∧ w'.cell? ⟨lb, loff + j * 5 + 3, none⟩ = some (.slice q1 m.list[j].list.length e1) ∧ w'.cell? ⟨lb, loff + j * 5 + 4, none⟩ = some (.slice q1' m.list[j].names.length e1') ∧ w'.cell? ⟨xb, 0, none⟩ = some (.int .i64 X.kind) ∧ w'.cell? ⟨xb, 1, none⟩ = some (.int .i64 X.num) ∧ w'.cell? ⟨xb, 2, none⟩ = some (.string X.text) ∧ w'.cell? ⟨xb, 3, none⟩ = some (.slice p2 X.list.length n2) ∧ w'.cell? ⟨xb, 4, none⟩ = some (.slice p2' X.names.length n2')) (by kernel_rfl) rfl (by kernel_rfl) ?_ (fun hHeld => ?_)
                    · try dsimp only
                      go_keep
                    refine wpAnyH_take (i := 0) (oi := { dst := some 100, op := Op.fieldAddr 29 (Operand.tmp 5) 3, type := 0, pos := "l8_patch.go:273", after := #[], guard := none }) (v := ?_) rfl (by kernel_rfl) (by kernel_rfl) (by kernel_rfl) (fun _ _ _ h => h) (Or.inl ⟨by rfl, ?_⟩) (by assumption) ?_
                    rotate_left 1
                    · (intro w hSw; (try dsimp only at hSw); go_simp)
                      all_goals (try with_reducible rfl)
                    try simp only [Act.put, List.setIfInBounds_toArray, List.set_cons_zero, List.set_cons_succ]
                    refine wpAnyH_take (i := 1) (oi := { dst := some 101, op := Op.load 27 (Operand.tmp 100), type := 27, pos := "l8_patch.go:273", after := #[{ on := 0, ground := Ground.data }], guard := none }) (v := ?_) rfl (by kernel_rfl) (by kernel_rfl) (by kernel_rfl) (fun _ _ _ h => h) (Or.inl ⟨by rfl, ?_⟩) (by assumption) ?_
                    rotate_left 1
                    · (intro w hSw; (try dsimp only at hSw); go_simp)
                      all_goals (try with_reducible rfl)
                    try simp only [Act.put, List.setIfInBounds_toArray, List.set_cons_zero, List.set_cons_succ]
                    refine wpAnyH_take (i := 2) (oi := { dst := some 102, op := Op.load 29 (Operand.tmp 10), type := 29, pos := "l8_patch.go:273", after := #[], guard := none }) (v := ?_) rfl (by kernel_rfl) (by kernel_rfl) (by kernel_rfl) (fun _ _ _ h => h) (Or.inl ⟨by rfl, ?_⟩) (by assumption) ?_
                    rotate_left 1
                    · (intro w hSw; (try dsimp only at hSw); go_simp)
                      all_goals (try with_reducible rfl)
                    try simp only [Act.put, List.setIfInBounds_toArray, List.set_cons_zero, List.set_cons_succ]
                    refine wpAnyH_take (i := 3) (oi := { dst := some 103, op := Op.fieldAddr 29 (Operand.tmp 3) 3, type := 0, pos := "l8_patch.go:273", after := #[], guard := none }) (v := ?_) rfl (by kernel_rfl) (by kernel_rfl) (by kernel_rfl) (fun _ _ _ h => h) (Or.inl ⟨by rfl, ?_⟩) (by assumption) ?_
                    rotate_left 1
                    · (intro w hSw; (try dsimp only at hSw); go_simp)
                      all_goals (try with_reducible rfl)
                    try simp only [Act.put, List.setIfInBounds_toArray, List.set_cons_zero, List.set_cons_succ]
                    refine wpAnyH_take (i := 4) (oi := { dst := some 104, op := Op.load 27 (Operand.tmp 103), type := 27, pos := "l8_patch.go:273", after := #[{ on := 3, ground := Ground.data }], guard := none }) (v := ?_) rfl (by kernel_rfl) (by kernel_rfl) (by kernel_rfl) (fun _ _ _ h => h) (Or.inl ⟨by rfl, ?_⟩) (by assumption) ?_
                    rotate_left 1
                    · (intro w hSw; (try dsimp only at hSw); go_simp)
                      all_goals (try with_reducible rfl)
                    try simp only [Act.put, List.setIfInBounds_toArray, List.set_cons_zero, List.set_cons_succ]
                    refine wpAnyH_take (i := 5) (oi := { dst := some 105, op := Op.move (Operand.tmp 9), type := 3, pos := "l8_patch.go:273", after := #[], guard := none }) (v := ?_) rfl (by kernel_rfl) (by kernel_rfl) (by kernel_rfl) (fun _ _ _ h => h) (Or.inl ⟨by rfl, ?_⟩) (by assumption) ?_
                    rotate_left 1
                    · (intro w hSw; (try dsimp only at hSw); go_simp)
                      all_goals (try with_reducible rfl)
                    try simp only [Act.put, List.setIfInBounds_toArray, List.set_cons_zero, List.set_cons_succ]
                    refine wpAnyH_take (i := 6) (oi := { dst := some 106, op := Op.indexAddr 27 (Operand.tmp 104) (Operand.tmp 105), type := 0, pos := "l8_patch.go:273", after := #[{ on := 4, ground := Ground.data }, { on := 5, ground := Ground.data }], guard := none }) (v := ?_) rfl (by kernel_rfl) (by kernel_rfl) (by kernel_rfl) (fun _ _ _ h => h) (Or.inl ⟨by rfl, ?_⟩) (by assumption) ?_
                    rotate_left 1
                    · (intro w hSw; (try dsimp only at hSw); go_simp)
                      all_goals (try with_reducible rfl)
                    try simp only [Act.put, List.setIfInBounds_toArray, List.set_cons_zero, List.set_cons_succ]
                    refine wpAnyH_take (i := 7) (oi := { dst := some 107, op := Op.load 29 (Operand.tmp 106), type := 29, pos := "l8_patch.go:273", after := #[{ on := 6, ground := Ground.data }], guard := none }) (v := ?_) rfl (by kernel_rfl) (by kernel_rfl) (by kernel_rfl) (fun _ _ _ h => h) (Or.inl ⟨by rfl, ?_⟩) (by assumption) ?_
                    rotate_left 1
                    · (intro w hSw; (try dsimp only at hSw); go_simp)
                      all_goals (try with_reducible rfl)
                    try simp only [Act.put, List.setIfInBounds_toArray, List.set_cons_zero, List.set_cons_succ]
                    refine wpAnyH_ready (rs := [8]) (by kernel_rfl) (by simp) ?_
                    refine AllReadyH.cons (o := { dst := some 108, op := Op.call { callee := Callee.value (Operand.func 53), args := #[Operand.tmp 102, Operand.tmp 107], argTypes := #[29, 29] }, type := 29, pos := "l8_patch.go:273", after := #[{ on := 2, ground := Ground.data }, { on := 7, ground := Ground.data }], guard := none }) rfl (fun K hK => ?_) ?_
                    · go_simp
                      (go_at_call 53; refine (Hid.out HCP).mono ?_; (try clear o3 b3 c0 c1 c2 c3 c4 x0 x1 x2 x3 x4); rintro e w4 ⟨p3, n3, p3', n3', rfl, ⟨f3, b3, c0, c1, c2, c3, c4, x0, x1, x2, x3, x4⟩, f3f, hsz4, hA4, HOWN, HB4, HVK⟩)
                      refine hK.out _ _ ?_ (fun hHeld0 => ?_)
                      · try dsimp only
                        go_keep
                      clear hK K hHeld
                      try simp only [Act.put, List.setIfInBounds_toArray, List.set_cons_zero, List.set_cons_succ]
                      refine wpAnyH_ready (rs := [9]) (by kernel_rfl) (by simp) ?_
                      refine AllReadyH.cons (o := { dst := some 109, op := Op.buildSlice 27 1 #[(0, Operand.tmp 108)], type := 27, pos := "l8_patch.go:273", after := #[{ on := 8, ground := Ground.data }], guard := none }) rfl (fun K hK => ?_) ?_
                      · go_simp
                        refine hK.out _ _ ?_ (fun hHeld1 => ?_)
                        · try dsimp only
                          go_keep
                        clear hK K hHeld0
                        try simp only [Act.put, List.setIfInBounds_toArray, List.set_cons_zero, List.set_cons_succ]
                        refine wpAnyH_ready (rs := [10]) (by kernel_rfl) (by simp) ?_
                        refine AllReadyH.cons (o := { dst := some 110, op := Op.call { callee := Callee.builtin Builtin.append, args := #[Operand.tmp 101, Operand.tmp 109], argTypes := #[27, 27] }, type := 27, pos := "l8_patch.go:273", after := #[{ on := 1, ground := Ground.data }, { on := 9, ground := Ground.data }, { on := 8, ground := Ground.chain }], guard := none }) rfl (fun K hK => ?_) ?_
                        · (refine step_append_lies _ (by rfl) _ _ _ (by rfl) (w.heap.size + 4) 29 i0 _ 5 80 Try.underlying27 hi0 hz0 hz1 hz2 rfl (by omega) (.slice x l.length xc) l.length xs (by rfl) (HOWN.out.alloc _) ⟨w4.heap.size, 0, none⟩ 1 1 [.int .i64 u.kind, .int .i64 u.num, .string u.text, .slice p3 u.list.length n3, .slice p3' u.names.length n3'] (by rfl) (by rfl) (World.news_of_block (cs := #[.int .i64 u.kind, .int .i64 u.num, .string u.text, .slice p3 u.list.length n3, .slice p3' u.names.length n3']) (t := 29) (fr := (0, 0)) (heap_alloc_newS w4 _)) (by simp [Value.oneCell']) (by omega) (by unfold maxLen; omega) (by omega) (by simp; omega) (w4.heap.size + 1) (by simp) ?_; intro g2 cap_g2 w5 hown_g2 hgr_g2 hat_g2 hlt_g2; have HGR5 : Hid _ := hgr_g2; have g3 := HGR5.out.cell (a := ⟨w.heap.size + 1 + 1 + 1, 3, none⟩) ((World.cell?_alloc_lt _ _ _ (cell_lt f3)).trans f3) (HS3.out.gr.far (by (try dsimp only); omega)).1; have h3 := HGR5.out.cell (a := ⟨w.heap.size + 1, 3, none⟩) ((World.cell?_alloc_lt _ _ _ (cell_lt b3)).trans b3) (HS3.out.gr.far (by (try dsimp only); omega)).1; have d0 := HGR5.out.cell (a := ⟨lb, loff + j * 5, none⟩) ((World.cell?_alloc_lt _ _ _ (cell_lt c0)).trans c0) (HS3.out.gr.far (by (try dsimp only); omega)).1; have d1 := HGR5.out.cell (a := ⟨lb, loff + j * 5 + 1, none⟩) ((World.cell?_alloc_lt _ _ _ (cell_lt c1)).trans c1) (HS3.out.gr.far (by (try dsimp only); omega)).1; have d2 := HGR5.out.cell (a := ⟨lb, loff + j * 5 + 2, none⟩) ((World.cell?_alloc_lt _ _ _ (cell_lt c2)).trans c2) (HS3.out.gr.far (by (try dsimp only); omega)).1; have d3 := HGR5.out.cell (a := ⟨lb, loff + j * 5 + 3, none⟩) ((World.cell?_alloc_lt _ _ _ (cell_lt c3)).trans c3) (HS3.out.gr.far (by (try dsimp only); omega)).1; have d4 := HGR5.out.cell (a := ⟨lb, loff + j * 5 + 4, none⟩) ((World.cell?_alloc_lt _ _ _ (cell_lt c4)).trans c4) (HS3.out.gr.far (by (try dsimp only); omega)).1; have y0 := HGR5.out.cell (a := ⟨xb, 0, none⟩) ((World.cell?_alloc_lt _ _ _ (cell_lt x0)).trans x0) HXF.out; have y1 := HGR5.out.cell (a := ⟨xb, 1, none⟩) ((World.cell?_alloc_lt _ _ _ (cell_lt x1)).trans x1) HXF.out; have y2 := HGR5.out.cell (a := ⟨xb, 2, none⟩) ((World.cell?_alloc_lt _ _ _ (cell_lt x2)).trans x2) HXF.out; have y3 := HGR5.out.cell (a := ⟨xb, 3, none⟩) ((World.cell?_alloc_lt _ _ _ (cell_lt x3)).trans x3) HXF.out; have y4 := HGR5.out.cell (a := ⟨xb, 4, none⟩) ((World.cell?_alloc_lt _ _ _ (cell_lt x4)).trans x4) HXF.out; have f3f' : w5.frozen? ⟨w.heap.size + 1 + 1 + 1, 3, none⟩ = false := (HGR5.out.frozen_far ⟨w.heap.size + 1 + 1 + 1, 3, none⟩ (by simp; omega) NBv.out).trans ((World.frozen?_of_block (w := w4) (Below.heap_alloc _ _ _ (cell_lt f3))).trans f3f); have HOWN5 : Hid _ := hown_g2; have HAT5 : Hid _ := hat_g2; clear hown_g2 hgr_g2 hat_g2)
                          refine hK.out _ _ ?_ (fun hHeld2 => ?_)
                          · try dsimp only
                            go_keep
                          clear hK K hHeld1
                          try simp only [Act.put, List.setIfInBounds_toArray, List.set_cons_zero, List.set_cons_succ]
                          refine wpAnyH_take (i := 11) (oi := { dst := some 111, op := Op.fieldAddr 29 (Operand.tmp 5) 3, type := 0, pos := "l8_patch.go:273", after := #[{ on := 0, ground := Ground.phase }, { on := 1, ground := Ground.phase }, { on := 2, ground := Ground.phase }, { on := 3, ground := Ground.phase }, { on := 4, ground := Ground.phase }, { on := 5, ground := Ground.phase }, { on := 6, ground := Ground.phase }, { on := 7, ground := Ground.phase }, { on := 8, ground := Ground.phase }, { on := 9, ground := Ground.phase }, { on := 10, ground := Ground.phase }], guard := none }) (v := ?_) rfl (by kernel_rfl) (by kernel_rfl) (by kernel_rfl) (fun _ _ _ h => h) (Or.inl ⟨by rfl, ?_⟩) (by assumption) ?_
                          rotate_left 1
                          · (intro w hSw; (try dsimp only at hSw); go_simp)
                            all_goals (try with_reducible rfl)
                          try simp only [Act.put, List.setIfInBounds_toArray, List.set_cons_zero, List.set_cons_succ]
                          refine wpAnyH_done (by kernel_rfl) ?_ _
                          intro KK hKK
                          go_simp
                          refine hKK _ _ ?_
                          clear hKK KK
                          have HS4 : Hid (MdSt w (w5.setCell ⟨w.heap.size + 3, 3, none⟩ (.slice (some ⟨g2, 0, none⟩) (l.length + 1) cap_g2)) k #[.int .i64 v.kind, .int .i64 v.num, .string v.text, .slice va v.list.length vc, .slice va' v.names.length vc'] #[.int .i64 m.kind, .int .i64 m.num, .string m.text, .slice (some ⟨lb, loff, none⟩) m.list.length mc, .slice (some ⟨nb, noff, none⟩) m.names.length mc'] (l ++ [u]) (xs ++ [.int .i64 u.kind, .int .i64 u.num, .string u.text, .slice p3 u.list.length n3, .slice p3' u.names.length n3']) (ns ++ [m.names[j]]) (some ⟨g2, 0, none⟩) cap_g2 (some ⟨g, 0, none⟩) cap_g) := HS3.out.step rfl HB4.out HVK.out HOWN5.out HGR5.out HAT5.out
                          clear HOWN5 HGR5 HAT5 HVK HB4 HOWN f3 f3f g3 h3 d0 d1 d2 d3 d4 b3 c0 c1 c2 c3 c4 f3f' hsz4 hA4 hlt_g2 HCP x0 x1 x2 x3 x4 y0 y1 y2 y3 y4
                          go_wp2_with fail
                          exact ⟨⟨j + 1, l ++ [u], ns ++ [m.names[j]], xs ++ [.int .i64 u.kind, .int .i64 u.num, .string u.text, .slice p3 u.list.length n3, .slice p3' u.names.length n3'], some ⟨g2, 0, none⟩, cap_g2, some ⟨g, 0, none⟩, cap_g, by go_num, by omega, by simp; omega, by simp; omega, HLN2, HNS2, HS4⟩, by simp [intOf]; omega⟩
                        exact AllReadyH.nil
                      exact AllReadyH.nil
                    exact AllReadyH.nil
                  exact AllReadyH.nil
                exact AllReadyH.nil
            · have hjl : j = (prsOf m).length := by omega
              have hlti : decide ((j : Int) < (m.names.length : Int)) = false := decide_eq_false (by omega)
              have HFIN : Hid (mdo (k + 1) v m = ⟨5, 0, ⟨#[]⟩, l, ns⟩) := by
                obtain ⟨e1, e2⟩ := HLN.out
                rw [hjl, List.take_length] at e1 e2
                show _ = _
                rw [HE.out, e1, e2]
                rfl
              have hl24 : l.length ≤ 1000 := by omega
              have hn24 : ns.length ≤ 1000 := by omega
              have HVAL : Hid (VlK wr (w.heap.size + 4) wr.heap.size (k + 1) ⟨5, 0, ⟨#[]⟩, l, ns⟩ [.int .i64 5, .int .i64 0, .string ⟨#[]⟩, .slice x l.length xc, .slice y ns.length yc]) := HST.out.value hl24 hn24 HNS.out
              obtain ⟨o0, o1, o2, o3, o4⟩ := out_box HST.out.bo
              obtain ⟨r0, r1, r2, r3, r4⟩ := res_box HST.out.br
              have rf := res_frozen HST.out.br
              have hz1 : w.heap.size + 1 + 1 < wr.heap.size := cell_lt r0
              have HBEL : Hid (Below w.heap.size w wr) := HST.out.bel
              clear hjl HST
              go_wp2_with fail
              refine bodyPost_ret (v := .agg #[.int .i64 5, .int .i64 0, .string ⟨#[]⟩, .slice x l.length xc, .slice y ns.length yc]) (by simp [results, Try.results53, go_sem, hz1, r0, r1, r2, r3, r4]; try rfl) rfl ?_
              rw [HFIN.out]
              refine ⟨x, xc, y, yc, rfl, fun W hW => VlR.base (Nat.le_add_right _ _) _ _ _ (HVAL.out W (fun b h1 h2 => ?_)), ((((HBEL.out.setCell (by simp; omega) _).setCell (by simp; omega) _).setCell (by simp; omega) _).setCell (by simp; omega) _).setCell (by simp; omega) _⟩
              rw [hW b (by omega) (by simpa [World.setCell] using h2)]
              simp only [World.setCell, Array.getElem?_modify]
              repeat rw [if_neg (by omega)]
        · have hv5 : (v.kind == 5) = false := by simp [h5v]
          have HNT : Hid (∀ s, treeO v s = none) := fun s => by unfold treeO; rw [if_neg h5v]
          clear h5v hjl
          go_wp2_with fail
          clear b0 b1 b2 b3 b4 hszr
          go_loopw [9] (fun i wr => ∃ (j : Nat) (l : List Vl) (ns : List ByteArray) (xs : List Value) (x : Option Addr) (xc : Nat) (y : Option Addr) (yc : Nat), i = .int .i64 (j : Int) ∧ j ≤ (prsOf m).length ∧ l.length ≤ 12 + j ∧ ns.length ≤ 12 + j ∧ Hid (l = ((pvOf v).filter (fun p => (treeO m p.1).isNone) ++ (saysQ ((prsOf m).take j)).map (fun p : Pr => (p.1, mdo k (vlOf (treeO v p.1)) p.2))).map (·.2) ∧ ns = ((pvOf v).filter (fun p => (treeO m p.1).isNone) ++ (saysQ ((prsOf m).take j)).map (fun p : Pr => (p.1, mdo k (vlOf (treeO v p.1)) p.2))).map (·.1)) ∧ Hid (∀ s ∈ ns, s.size ≤ 140737488351232) ∧ Hid (MdSt w wr k #[.int .i64 v.kind, .int .i64 v.num, .string v.text, .slice va v.list.length vc, .slice va' v.names.length vc'] #[.int .i64 m.kind, .int .i64 m.num, .string m.text, .slice ma m.list.length mc, .slice ma' m.names.length mc'] l xs ns x xc y yc)) (fun i _ => (prsOf m).length - (intOf i).toNat)
          case atStart => exact ⟨0, l, ns, xs, x, xc, y, yc, rfl, Nat.zero_le _, by omega, by omega, HPX, HNS, HST⟩
          case round =>
            clear HPX HNS HST HLN1 HLN hl12 hn12 hlj hnj HKr hj
            clear hlt
            obtain ⟨j, l, ns, xs, x, xc, y, yc, rfl, hj, hlj, hnj, HLN, HNS, HST⟩ := hrel
            have HKr : Hid (Keeps 0 w wr) := Keeps.of_below HST.out.bel (Nat.le_refl _) 0
            have hszr := HST.out.sz
            have hpml : (prsOf m).length = m.names.length := by unfold prsOf; rw [List.length_zip, HM5.out, Nat.min_self]
            have hmn12 : m.names.length ≤ 12 := by rw [HM5.out]; exact hml
            obtain ⟨m0, m1, m2, m3, m4⟩ := five_ofQ HST.out.bm.cell
            by_cases hlt : j < (prsOf m).length
            · have hmnl := HM5.out
              have hltn : j < m.names.length := by omega
              have hltl : j < m.list.length := by omega
              have hltni : (j : Int) < (m.names.length : Int) := by omega
              have hltli : (j : Int) < (m.list.length : Int) := by omega
              have hpj : (prsOf m)[j] = (m.names[j], m.list[j]) := by simp [prsOf]
              have HSN : Hid (saysQ ((prsOf m).take (j + 1)) = saysQ ((prsOf m).take j) ++ (if decide (m.list[j].kind ≠ 0) then [(m.names[j], m.list[j])] else [])) := by
                have h := filter_snoc hlt (fun p : Pr => decide (p.2.kind ≠ 0))
                rw [hpj] at h
                exact h
              have HOMJ : Hid (okB false k m.list[j] = true) := ok_kid HOM.out (List.getElem_mem hltl)
              have hk0 : 0 < k := by
                have h1 := HOMJ.out
                cases k with
                | zero => simp [okB] at h1
                | succ k => omega
              obtain ⟨vl, vn, e, _, _, _, hrow, hnames⟩ := HM.out w (Keeps.refl _ _)
              simp only [List.cons.injEq, true_and, and_true] at e
              obtain ⟨rfl, rfl⟩ := e
              obtain ⟨a', c', hv', _, hr⟩ := StrRow.len hnames
              obtain ⟨nb, noff, rfl, _, hcs⟩ := hr (List.ne_nil_of_length_pos (by omega))
              simp only [Value.slice.injEq, true_and] at hv'
              obtain ⟨rfl, rfl⟩ := hv'
              obtain ⟨s0', hs0⟩ := hcs j hltn
              obtain ⟨la, lc, hlv, _, hlr⟩ := Row.len hrow
              obtain ⟨lb, loff, rfl, _, hlcs⟩ := hlr (List.ne_nil_of_length_pos (by omega))
              simp only [Value.slice.injEq, true_and] at hlv
              obtain ⟨rfl, rfl⟩ := hlv
              obtain ⟨cs, _, hlc, hlq⟩ := hlcs j hltl
              obtain ⟨q1, e1, q1', e1', rfl⟩ := hlq.cells
              have HC5 : Hid (∀ W, Below w.heap.size w W → W.cell? ⟨nb, noff + j, none⟩ = some (.string m.names[j]) ∧ W.cell? ⟨lb, loff + j * 5, none⟩ = some (.int .i64 m.list[j].kind) ∧ W.cell? ⟨lb, loff + j * 5 + 1, none⟩ = some (.int .i64 m.list[j].num) ∧ W.cell? ⟨lb, loff + j * 5 + 2, none⟩ = some (.string m.list[j].text) ∧ W.cell? ⟨lb, loff + j * 5 + 3, none⟩ = some (.slice q1 m.list[j].list.length e1) ∧ W.cell? ⟨lb, loff + j * 5 + 4, none⟩ = some (.slice q1' m.list[j].names.length e1') ∧ nb < W.heap.size ∧ lb < W.heap.size) := fun W h => by
                obtain ⟨c0, c1, c2, c3, c4⟩ := hlc.five
                have hk := h.size
                have h1 := cell_lt s0'
                have h2 := cell_lt c0
                exact ⟨cell_on h s0', cell_on h c0, cell_on h c1, cell_on h c2, cell_on h c3, cell_on h c4, by simp only at h1; omega, by simp only at h2; omega⟩
              have HNB : Hid (nb < w.heap.size ∧ lb < w.heap.size) := ⟨(HC5.out w (Below.refl _ _)).2.2.2.2.2.2.1, (HC5.out w (Below.refl _ _)).2.2.2.2.2.2.2⟩
              have HCJ : Hid (∀ W, Keeps 0 w W → VlR W 0 k m.list[j] [.int .i64 m.list[j].kind, .int .i64 m.list[j].num, .string m.list[j].text, .slice q1 m.list[j].list.length e1, .slice q1' m.list[j].names.length e1']) := fun W h => VlR.keeps h _ _ _ hlq
              obtain ⟨s0, c0, _, _, _, _, hsn, _⟩ := HC5.out wr HST.out.bel
              have HS0 : Hid (m.names[j].size ≤ 140737488351232) := hs0
              clear hrow hnames hr hcs hlr hlcs hlc hlq s0' hpj hmnl
              by_cases hkj : m.list[j].kind = 0
              · have hke : (m.list[j].kind == 0) = true := by simp [hkj]
                have HLN2 : Hid (l = ((pvOf v).filter (fun p => (treeO m p.1).isNone) ++ (saysQ ((prsOf m).take (j + 1))).map (fun p : Pr => (p.1, mdo k (vlOf (treeO v p.1)) p.2))).map (·.2) ∧ ns = ((pvOf v).filter (fun p => (treeO m p.1).isNone) ++ (saysQ ((prsOf m).take (j + 1))).map (fun p : Pr => (p.1, mdo k (vlOf (treeO v p.1)) p.2))).map (·.1)) := by
                  show _ ∧ _
                  rw [HSN.out, if_neg (by simp [hkj]), List.append_nil]
                  exact HLN.out
                clear hkj
                obtain ⟨vv0, vv1, vv2, vv3, vv4⟩ := five_ofQ HST.out.bv.cell
                go_wp2_with fail
                exact ⟨⟨j + 1, l, ns, xs, x, xc, y, yc, by go_num, by omega, by omega, by omega, HLN2, HNS, HST⟩, by simp [intOf]; omega⟩
              · have hke : (m.list[j].kind == 0) = false := by simp [hkj]
                have HKJ : Hid (decide (m.list[j].kind ≠ 0) = true) := decide_eq_true hkj
                clear hkj
                obtain ⟨vv0, vv1, vv2, vv3, vv4⟩ := five_ofQ HST.out.bv.cell
                have hAr0 : w.heap.size < wr.heap.size := by omega
                have hAr1 : w.heap.size + 1 < wr.heap.size := by omega
                obtain ⟨X, hX⟩ : ∃ X, vlOf (treeO v m.names[j]) = X := ⟨_, rfl⟩
                have HXQ : Hid (vlOf (treeO v m.names[j]) = X) := hX
                go_wp2_with fail
                obtain ⟨WN, hWN⟩ : ∃ WN, WN = wr.alloc (Obj.cells #[.int .i64 0, .int .i64 0, .string ⟨#[]⟩, .slice none 0 0, .slice none 0 0] 29) := ⟨_, rfl⟩
                rw [← hWN]
                have HBN : Hid (Below wr.heap.size wr WN) := by rw [hWN]; exact (Below.refl _ _).alloc (Nat.le_refl _) _
                have hXz : X = zeroV := by rw [← hX, HNT.out]; rfl
                obtain ⟨p2, hp2⟩ : ∃ p : Option Addr, p = none := ⟨_, rfl⟩
                obtain ⟨p2', hp2'⟩ : ∃ p : Option Addr, p = none := ⟨_, rfl⟩
                obtain ⟨n2, hn2⟩ : ∃ n : Nat, n = 0 := ⟨_, rfl⟩
                obtain ⟨n2', hn2'⟩ : ∃ n : Nat, n = 0 := ⟨_, rfl⟩
                have HXR : Hid (VlR w 0 k X [.int .i64 X.kind, .int .i64 X.num, .string X.text, .slice p2 X.list.length n2, .slice p2' X.names.length n2']) := by
                  obtain ⟨k', hk'⟩ : ∃ k', k = k' + 1 := ⟨k - 1, by omega⟩
                  subst hk' hp2 hp2' hn2 hn2'
                  rw [hXz]
                  exact zero_read _ _ _
                obtain ⟨xb, hxb⟩ : ∃ xb, wr.heap.size = xb := ⟨_, rfl⟩
                have HXB : Hid (Owns WN xb #[.int .i64 X.kind, .int .i64 X.num, .string X.text, .slice p2 X.list.length n2, .slice p2' X.names.length n2'] 29) := by
                  rw [← hxb]
                  subst hp2 hp2' hn2 hn2'
                  rw [hXz]
                  show Owns _ _ _ _
                  rw [hWN]
                  exact Owns.made _ _ _
                rw [hxb]
                clear hWN hX hXz hp2 hp2' hn2 hn2' m0 m1 m2 m3 m4 s0 vv0 vv1 vv2 vv3 vv4 hsn
                clear hke c0
                have HS1 : Hid (MdSt w WN k #[.int .i64 v.kind, .int .i64 v.num, .string v.text, .slice va v.list.length vc, .slice va' v.names.length vc'] #[.int .i64 m.kind, .int .i64 m.num, .string m.text, .slice (some ⟨lb, loff, none⟩) m.list.length mc, .slice (some ⟨nb, noff, none⟩) m.names.length mc'] l xs ns x xc y yc) := HST.out.on HBN.out
                have hszN := HS1.out.sz
                have hxb4 : w.heap.size + 4 ≤ xb := by rw [← hxb]; exact hszr
                have HNX : Hid (some xb ≠ (Value.slice y ns.length yc).ownBlock) := fun he => by have h := (HST.out.gr.nown.lt xb he.symm).2; omega
                have HLX : Hid (some xb ≠ (Value.slice x l.length xc).ownBlock) := fun he => by have h := (HST.out.gr.own.lt xb he.symm).2; omega
                obtain ⟨s0, _, _, _, _, _, hAn, _⟩ := HC5.out WN HS1.out.bel
                have HOX : Hid (okB false k X = true) := by have h := ok_vlOf (s := m.names[j]) HOV.out hk0; rw [HXQ.out] at h; exact h
                obtain ⟨u, hu⟩ : ∃ u, mdo k X m.list[j] = u := ⟨_, rfl⟩
                have HU : Hid (mdo k X m.list[j] = u) := hu
                have HLN2 : Hid (l ++ [u] = ((pvOf v).filter (fun p => (treeO m p.1).isNone) ++ (saysQ ((prsOf m).take (j + 1))).map (fun p : Pr => (p.1, mdo k (vlOf (treeO v p.1)) p.2))).map (·.2) ∧ ns ++ [m.names[j]] = ((pvOf v).filter (fun p => (treeO m p.1).isNone) ++ (saysQ ((prsOf m).take (j + 1))).map (fun p : Pr => (p.1, mdo k (vlOf (treeO v p.1)) p.2))).map (·.1)) := by
                  obtain ⟨e1, e2⟩ := HLN.out
                  have e3 : (saysQ ((prsOf m).take (j + 1))).map (fun p : Pr => (p.1, mdo k (vlOf (treeO v p.1)) p.2)) = (saysQ ((prsOf m).take j)).map (fun p : Pr => (p.1, mdo k (vlOf (treeO v p.1)) p.2)) ++ [(m.names[j], u)] := by
                    rw [HSN.out, if_pos HKJ.out, List.map_append]
                    simp only [List.map_cons, List.map_nil]
                    rw [HXQ.out, hu]
                  show _ ∧ _
                  rw [e3, ← List.append_assoc]
                  exact ⟨by rw [List.map_append, ← e1]; rfl, by rw [List.map_append, ← e2]; rfl⟩
                have HNS2 : Hid (∀ s ∈ ns ++ [m.names[j]], s.size ≤ 140737488351232) := fun s hs => by
                  rcases List.mem_append.1 hs with h | h
                  · exact HNS.out s h
                  · simp only [List.mem_singleton] at h; rw [h]; exact HS0.out
                have NBn : Hid (some (w.heap.size + 3) ≠ (Value.slice y ns.length yc).ownBlock) := (HS1.out.gr.far (by omega)).2
                clear hu hxb
                obtain ⟨o0, o1, o2, o3, o4⟩ := out_box HS1.out.bo
                have of := out_frozen HS1.out.bo
                obtain ⟨b0, b1, b2, b3, b4⟩ := five_ofQ HS1.out.bm.cell
                have hns24 : ns.length ≤ 24 := by omega
                have hA0 : w.heap.size < WN.heap.size := by omega
                have hA1 : w.heap.size + 1 < WN.heap.size := by omega
                have hA3 : w.heap.size + 1 + 1 + 1 < WN.heap.size := cell_lt o4
                have hnbw : nb < w.heap.size := HNB.out.1
                have hlbw : lb < w.heap.size := HNB.out.2
                have HS9 : Hid _ := HS1
                refine wp_region_last 10 _ rfl (fun w' => w'.cell? ⟨w.heap.size + 1 + 1 + 1, 4, none⟩ = some (.slice y ns.length yc) ∧ w'.cell? ⟨w.heap.size + 1, 4, none⟩ = some (.slice (some ⟨nb, noff, none⟩) m.names.length mc') ∧ w'.cell? ⟨nb, noff + j, none⟩ = some (.string m.names[j])) (by kernel_rfl) rfl (by kernel_rfl) ?_ (fun hHeld => ?_)
                · try dsimp only
                  go_keep
                refine wpAnyH_take (i := 0) (oi := { dst := some 90, op := Op.fieldAddr 29 (Operand.tmp 5) 4, type := 0, pos := "l8_patch.go:272", after := #[], guard := none }) (v := ?_) rfl (by kernel_rfl) (by kernel_rfl) (by kernel_rfl) (fun _ _ _ h => h) (Or.inl ⟨by rfl, ?_⟩) (by assumption) ?_
                rotate_left 1
                · (intro w hSw; (try dsimp only at hSw); go_simp)
                  all_goals (try with_reducible rfl)
                try simp only [Act.put, List.setIfInBounds_toArray, List.set_cons_zero, List.set_cons_succ]
                refine wpAnyH_take (i := 1) (oi := { dst := some 91, op := Op.load 23 (Operand.tmp 90), type := 23, pos := "l8_patch.go:272", after := #[{ on := 0, ground := Ground.data }], guard := none }) (v := ?_) rfl (by kernel_rfl) (by kernel_rfl) (by kernel_rfl) (fun _ _ _ h => h) (Or.inl ⟨by rfl, ?_⟩) (by assumption) ?_
                rotate_left 1
                · (intro w hSw; (try dsimp only at hSw); go_simp)
                  all_goals (try with_reducible rfl)
                try simp only [Act.put, List.setIfInBounds_toArray, List.set_cons_zero, List.set_cons_succ]
                refine wpAnyH_take (i := 2) (oi := { dst := some 92, op := Op.fieldAddr 29 (Operand.tmp 3) 4, type := 0, pos := "l8_patch.go:272", after := #[], guard := none }) (v := ?_) rfl (by kernel_rfl) (by kernel_rfl) (by kernel_rfl) (fun _ _ _ h => h) (Or.inl ⟨by rfl, ?_⟩) (by assumption) ?_
                rotate_left 1
                · (intro w hSw; (try dsimp only at hSw); go_simp)
                  all_goals (try with_reducible rfl)
                try simp only [Act.put, List.setIfInBounds_toArray, List.set_cons_zero, List.set_cons_succ]
                refine wpAnyH_take (i := 3) (oi := { dst := some 93, op := Op.load 23 (Operand.tmp 92), type := 23, pos := "l8_patch.go:272", after := #[{ on := 2, ground := Ground.data }], guard := none }) (v := ?_) rfl (by kernel_rfl) (by kernel_rfl) (by kernel_rfl) (fun _ _ _ h => h) (Or.inl ⟨by rfl, ?_⟩) (by assumption) ?_
                rotate_left 1
                · (intro w hSw; (try dsimp only at hSw); go_simp)
                  all_goals (try with_reducible rfl)
                try simp only [Act.put, List.setIfInBounds_toArray, List.set_cons_zero, List.set_cons_succ]
                refine wpAnyH_take (i := 4) (oi := { dst := some 94, op := Op.move (Operand.tmp 9), type := 3, pos := "l8_patch.go:272", after := #[], guard := none }) (v := ?_) rfl (by kernel_rfl) (by kernel_rfl) (by kernel_rfl) (fun _ _ _ h => h) (Or.inl ⟨by rfl, ?_⟩) (by assumption) ?_
                rotate_left 1
                · (intro w hSw; (try dsimp only at hSw); go_simp)
                  all_goals (try with_reducible rfl)
                try simp only [Act.put, List.setIfInBounds_toArray, List.set_cons_zero, List.set_cons_succ]
                refine wpAnyH_take (i := 5) (oi := { dst := some 95, op := Op.indexAddr 23 (Operand.tmp 93) (Operand.tmp 94), type := 0, pos := "l8_patch.go:272", after := #[{ on := 3, ground := Ground.data }, { on := 4, ground := Ground.data }], guard := none }) (v := ?_) rfl (by kernel_rfl) (by kernel_rfl) (by kernel_rfl) (fun _ _ _ h => h) (Or.inl ⟨by rfl, ?_⟩) (by assumption) ?_
                rotate_left 1
                · (intro w hSw; (try dsimp only at hSw); go_simp)
                  all_goals (try with_reducible rfl)
                try simp only [Act.put, List.setIfInBounds_toArray, List.set_cons_zero, List.set_cons_succ]
                refine wpAnyH_take (i := 6) (oi := { dst := some 96, op := Op.load 9 (Operand.tmp 95), type := 9, pos := "l8_patch.go:272", after := #[{ on := 5, ground := Ground.data }], guard := none }) (v := ?_) rfl (by kernel_rfl) (by kernel_rfl) (by kernel_rfl) (fun _ _ _ h => h) (Or.inl ⟨by rfl, ?_⟩) (by assumption) ?_
                rotate_left 1
                · (intro w hSw; (try dsimp only at hSw); go_simp)
                  all_goals (try with_reducible rfl)
                try simp only [Act.put, List.setIfInBounds_toArray, List.set_cons_zero, List.set_cons_succ]
                refine wpAnyH_ready (rs := [7]) (by kernel_rfl) (by simp) ?_
                refine AllReadyH.cons (o := { dst := some 97, op := Op.buildSlice 23 1 #[(0, Operand.tmp 96)], type := 23, pos := "l8_patch.go:272", after := #[{ on := 6, ground := Ground.data }], guard := none }) rfl (fun K hK => ?_) ?_
                · go_simp
                  refine hK.out _ _ ?_ (fun hHeld0 => ?_)
                  · try dsimp only
                    go_keep
                  clear hK K hHeld
                  try simp only [Act.put, List.setIfInBounds_toArray, List.set_cons_zero, List.set_cons_succ]
                  refine wpAnyH_ready (rs := [8]) (by kernel_rfl) (by simp) ?_
                  refine AllReadyH.cons (o := { dst := some 98, op := Op.call { callee := Callee.builtin Builtin.append, args := #[Operand.tmp 91, Operand.tmp 97], argTypes := #[23, 23] }, type := 23, pos := "l8_patch.go:272", after := #[{ on := 1, ground := Ground.data }, { on := 7, ground := Ground.data }], guard := none }) rfl (fun K hK => ?_) ?_
                  · (refine step_append_lies _ (by rfl) _ _ _ (by rfl) (w.heap.size + 4) 9 i1 _ 1 16 Try.underlying23 hj0 hy0 hy1 hy2 rfl (by omega) (.slice y ns.length yc) ns.length (ns.map Value.string) (by rfl) (HS1.out.gr.nown.alloc _) ⟨WN.heap.size, 0, none⟩ 1 1 [.string m.names[j]] (by rfl) (by rfl) (World.news_of_block (cs := #[.string m.names[j]]) (t := 9) (fr := (0, 0)) (heap_alloc_newS WN _)) (by simp [Value.oneCell']) (by omega) (by unfold maxLen; omega) (by omega) (by simp; omega) (WN.heap.size + 1) (by simp) ?_; intro g cap_g w3 hown_g hgr_g hat_g hlt_g; have HGR3 : Hid (((WN.alloc (Obj.cells #[.string m.names[j]] 9))).grownBy w3 (Value.slice y ns.length yc).ownBlock) := grown_drewM hgr_g; have f4 := HGR3.out.cell (a := ⟨w.heap.size + 1 + 1 + 1, 4, none⟩) ((World.cell?_alloc_lt _ _ _ (cell_lt o4)).trans o4) (HS9.out.gr.far (by (try dsimp only); omega)).2; have g4 := HGR3.out.cell (a := ⟨w.heap.size + 1, 4, none⟩) ((World.cell?_alloc_lt _ _ _ (cell_lt b4)).trans b4) (HS9.out.gr.far (by (try dsimp only); omega)).2; have gs := HGR3.out.cell (a := ⟨nb, noff + j, none⟩) ((World.cell?_alloc_lt _ _ _ (cell_lt s0)).trans s0) (HS9.out.gr.far (by (try dsimp only); omega)).2; have f4f : w3.frozen? ⟨w.heap.size + 1 + 1 + 1, 4, none⟩ = false := (HGR3.out.frozen_far ⟨w.heap.size + 1 + 1 + 1, 4, none⟩ (by simp; omega) NBn.out).trans ((World.frozen?_of_block (w := WN) (Below.heap_alloc _ _ _ (cell_lt o4))).trans (of 4)); have HOWN3 : Hid _ := hown_g; have HAT3 : Hid _ := hat_g; clear hown_g hgr_g hat_g)
                    refine hK.out _ _ ?_ (fun hHeld1 => ?_)
                    · try dsimp only
                      go_keep
                    clear hK K hHeld0
                    try simp only [Act.put, List.setIfInBounds_toArray, List.set_cons_zero, List.set_cons_succ]
                    refine wpAnyH_take (i := 9) (oi := { dst := some 99, op := Op.fieldAddr 29 (Operand.tmp 5) 4, type := 0, pos := "l8_patch.go:272", after := #[{ on := 0, ground := Ground.phase }, { on := 1, ground := Ground.phase }, { on := 2, ground := Ground.phase }, { on := 3, ground := Ground.phase }, { on := 4, ground := Ground.phase }, { on := 5, ground := Ground.phase }, { on := 6, ground := Ground.phase }, { on := 7, ground := Ground.phase }, { on := 8, ground := Ground.phase }], guard := none }) (v := ?_) rfl (by kernel_rfl) (by kernel_rfl) (by kernel_rfl) (fun _ _ _ h => h) (Or.inl ⟨by rfl, ?_⟩) (by assumption) ?_
                    rotate_left 1
                    · (intro w hSw; (try dsimp only at hSw); go_simp)
                      all_goals (try with_reducible rfl)
                    try simp only [Act.put, List.setIfInBounds_toArray, List.set_cons_zero, List.set_cons_succ]
                    refine wpAnyH_done (by kernel_rfl) ?_ _
                    intro KK hKK
                    go_simp
                    refine hKK _ _ ?_
                    clear hKK KK
                    obtain ⟨W3, hW3⟩ : ∃ W3, W3 = w3.setCell ⟨w.heap.size + 1 + 1 + 1, 4, none⟩ (.slice (some ⟨g, 0, none⟩) (ns.length + 1) cap_g) := ⟨_, rfl⟩
                    rw [← hW3]
                    have HS3 : Hid (MdSt w W3 k #[.int .i64 v.kind, .int .i64 v.num, .string v.text, .slice va v.list.length vc, .slice va' v.names.length vc'] #[.int .i64 m.kind, .int .i64 m.num, .string m.text, .slice (some ⟨lb, loff, none⟩) m.list.length mc, .slice (some ⟨nb, noff, none⟩) m.names.length mc'] l xs (ns ++ [m.names[j]]) x xc (some ⟨g, 0, none⟩) cap_g) := by rw [hW3]; exact HS1.out.name HOWN3.out HGR3.out HAT3.out
                    have HXB3 : Hid (Owns W3 xb #[.int .i64 X.kind, .int .i64 X.num, .string X.text, .slice p2 X.list.length n2, .slice p2' X.names.length n2'] 29) := by
                      have h0 := HXB.out.lt
                      have h1 : w3.heap[xb]? = WN.heap[xb]? := by
                        rw [HGR3.out.block xb (by simp; omega) HNX.out, Below.heap_alloc _ _ _ h0]
                      show Owns _ _ _ _
                      rw [hW3]
                      exact HXB.out.sameQ ((Below.heap_setCell _ _ _ _ (by dsimp only; omega)).trans h1)
                    clear hW3 HOWN3 HGR3 HAT3 f4 f4f g4 gs hlt_g o0 o1 o2 o3 o4 of b0 b1 b2 b3 b4 s0 hA0 hA1 hA3 hAn NBn
                    have NBv : Hid (some (w.heap.size + 3) ≠ (Value.slice x l.length xc).ownBlock) := (HS3.out.gr.far (by omega)).1
                    obtain ⟨_, _, _, o3, _⟩ := out_box HS3.out.bo
                    have of := out_frozen HS3.out.bo
                    have hsz3 := HS3.out.sz
                    obtain ⟨_, c0, c1, c2, c3, c4, _, hlbW⟩ := HC5.out W3 HS3.out.bel
                    obtain ⟨b0, b1, b2, b3, b4⟩ := five_ofQ HS3.out.bm.cell
                    obtain ⟨x0, x1, x2, x3, x4⟩ := five_ofQ HXB3.out.cell
                    have HXF : Hid (some xb ≠ (Value.slice x l.length xc).ownBlock) := HLX
                    have HCP : Hid (Calls Try.prog 53 #[.agg #[.int .i64 X.kind, .int .i64 X.num, .string X.text, .slice p2 X.list.length n2, .slice p2' X.names.length n2'], .agg #[.int .i64 m.list[j].kind, .int .i64 m.list[j].num, .string m.list[j].text, .slice q1 m.list[j].list.length e1, .slice q1' m.list[j].names.length e1']] W3.drew fun e w4 => ∃ (p3 : Option Addr) (n3 : Nat) (p3' : Option Addr) (n3' : Nat), e = .returned (.agg #[.int .i64 u.kind, .int .i64 u.num, .string u.text, .slice p3 u.list.length n3, .slice p3' u.names.length n3']) ∧ (w4.cell? ⟨w.heap.size + 1 + 1 + 1, 3, none⟩ = some (.slice x l.length xc) ∧ w4.cell? ⟨w.heap.size + 1, 3, none⟩ = some (.slice (some ⟨lb, loff, none⟩) m.list.length mc) ∧ w4.cell? ⟨lb, loff + j * 5, none⟩ = some (.int .i64 m.list[j].kind) ∧ w4.cell? ⟨lb, loff + j * 5 + 1, none⟩ = some (.int .i64 m.list[j].num) ∧ w4.cell? ⟨lb, loff + j * 5 + 2, none⟩ = some (.string m.list[j].text) ∧ w4.cell? ⟨lb, loff + j * 5 + 3, none⟩ = some (.slice q1 m.list[j].list.length e1) ∧ w4.cell? ⟨lb, loff + j * 5 + 4, none⟩ = some (.slice q1' m.list[j].names.length e1') ∧ w4.cell? ⟨xb, 0, none⟩ = some (.int .i64 X.kind) ∧ w4.cell? ⟨xb, 1, none⟩ = some (.int .i64 X.num) ∧ w4.cell? ⟨xb, 2, none⟩ = some (.string X.text) ∧ w4.cell? ⟨xb, 3, none⟩ = some (.slice p2 X.list.length n2) ∧ w4.cell? ⟨xb, 4, none⟩ = some (.slice p2' X.names.length n2')) ∧ w4.frozen? ⟨w.heap.size + 1 + 1 + 1, 3, none⟩ = false ∧ w.heap.size + 4 ≤ w4.heap.size ∧ w.heap.size + 1 + 1 + 1 < w4.heap.size ∧ Hid (w4.ownsRow (w.heap.size + 4) 29 5 (.slice x l.length xc) l.length xs) ∧ Hid (Below W3.heap.size W3 w4) ∧ Hid (VlK w4 W3.heap.size w4.heap.size k u [.int .i64 u.kind, .int .i64 u.num, .string u.text, .slice p3 u.list.length n3, .slice p3' u.names.length n3'])) := by
                      have hc := ih X m.list[j] _ _ _ _ W3.drew (VlR.keeps (Keeps.of_below HS3.out.bel (Nat.le_refl _) 0).drew _ _ _ HXR.out) (HCJ.out _ (Keeps.of_below HS3.out.bel (Nat.le_refl _) 0).drew) HOX.out HOMJ.out
                      rw [HU.out] at hc
                      refine hc.mono ?_
                      rintro e w4 ⟨p3, n3, p3', n3', rfl, hK, hb4⟩
                      have hb4' : Below W3.heap.size W3 w4 := (Below.refl _ W3).drew.trans hb4
                      have h4 := HS3.out.on hb4'
                      exact ⟨p3, n3, p3', n3', rfl, ⟨(out_box h4.bo).2.2.2.1, (five_ofQ h4.bm.cell).2.2.2.1, cell_on hb4' c0, cell_on hb4' c1, cell_on hb4' c2, cell_on hb4' c3, cell_on hb4' c4, cell_on hb4' x0, cell_on hb4' x1, cell_on hb4' x2, cell_on hb4' x3, cell_on hb4' x4⟩, out_frozen h4.bo 3, h4.sz, h4.sz, h4.gr.own, hb4', hK⟩
                    go_wp2_with fail
                    refine wp_region_last 12 _ rfl (fun w' => w'.cell? ⟨w.heap.size + 1 + 1 + 1, 3, none⟩ = some (.slice x l.length xc) ∧ w'.cell? ⟨w.heap.size + 1, 3, none⟩ = some (.slice (some ⟨lb, loff, none⟩) m.list.length mc) ∧ w'.cell? ⟨lb, loff + j * 5, none⟩ = some (.int .i64 m.list[j].kind) ∧ w'.cell? ⟨lb, loff + j * 5 + 1, none⟩ = some (.int .i64 m.list[j].num) ∧ w'.cell? ⟨lb, loff + j * 5 + 2, none⟩ = some (.string m.list[j].text) ∧ w'.cell? ⟨lb, loff + j * 5 + 3, none⟩ = some (.slice q1 m.list[j].list.length e1) ∧ w'.cell? ⟨lb, loff + j * 5 + 4, none⟩ = some (.slice q1' m.list[j].names.length e1') ∧ w'.cell? ⟨xb, 0, none⟩ = some (.int .i64 X.kind) ∧ w'.cell? ⟨xb, 1, none⟩ = some (.int .i64 X.num) ∧ w'.cell? ⟨xb, 2, none⟩ = some (.string X.text) ∧ w'.cell? ⟨xb, 3, none⟩ = some (.slice p2 X.list.length n2) ∧ w'.cell? ⟨xb, 4, none⟩ = some (.slice p2' X.names.length n2')) (by kernel_rfl) rfl (by kernel_rfl) ?_ (fun hHeld => ?_)
                    · try dsimp only
                      go_keep
                    refine wpAnyH_take (i := 0) (oi := { dst := some 100, op := Op.fieldAddr 29 (Operand.tmp 5) 3, type := 0, pos := "l8_patch.go:273", after := #[], guard := none }) (v := ?_) rfl (by kernel_rfl) (by kernel_rfl) (by kernel_rfl) (fun _ _ _ h => h) (Or.inl ⟨by rfl, ?_⟩) (by assumption) ?_
                    rotate_left 1
                    · (intro w hSw; (try dsimp only at hSw); go_simp)
                      all_goals (try with_reducible rfl)
                    try simp only [Act.put, List.setIfInBounds_toArray, List.set_cons_zero, List.set_cons_succ]
                    refine wpAnyH_take (i := 1) (oi := { dst := some 101, op := Op.load 27 (Operand.tmp 100), type := 27, pos := "l8_patch.go:273", after := #[{ on := 0, ground := Ground.data }], guard := none }) (v := ?_) rfl (by kernel_rfl) (by kernel_rfl) (by kernel_rfl) (fun _ _ _ h => h) (Or.inl ⟨by rfl, ?_⟩) (by assumption) ?_
                    rotate_left 1
                    · (intro w hSw; (try dsimp only at hSw); go_simp)
                      all_goals (try with_reducible rfl)
                    try simp only [Act.put, List.setIfInBounds_toArray, List.set_cons_zero, List.set_cons_succ]
                    refine wpAnyH_take (i := 2) (oi := { dst := some 102, op := Op.load 29 (Operand.tmp 10), type := 29, pos := "l8_patch.go:273", after := #[], guard := none }) (v := ?_) rfl (by kernel_rfl) (by kernel_rfl) (by kernel_rfl) (fun _ _ _ h => h) (Or.inl ⟨by rfl, ?_⟩) (by assumption) ?_
                    rotate_left 1
                    · (intro w hSw; (try dsimp only at hSw); go_simp)
                      all_goals (try with_reducible rfl)
                    try simp only [Act.put, List.setIfInBounds_toArray, List.set_cons_zero, List.set_cons_succ]
                    refine wpAnyH_take (i := 3) (oi := { dst := some 103, op := Op.fieldAddr 29 (Operand.tmp 3) 3, type := 0, pos := "l8_patch.go:273", after := #[], guard := none }) (v := ?_) rfl (by kernel_rfl) (by kernel_rfl) (by kernel_rfl) (fun _ _ _ h => h) (Or.inl ⟨by rfl, ?_⟩) (by assumption) ?_
                    rotate_left 1
                    · (intro w hSw; (try dsimp only at hSw); go_simp)
                      all_goals (try with_reducible rfl)
                    try simp only [Act.put, List.setIfInBounds_toArray, List.set_cons_zero, List.set_cons_succ]
                    refine wpAnyH_take (i := 4) (oi := { dst := some 104, op := Op.load 27 (Operand.tmp 103), type := 27, pos := "l8_patch.go:273", after := #[{ on := 3, ground := Ground.data }], guard := none }) (v := ?_) rfl (by kernel_rfl) (by kernel_rfl) (by kernel_rfl) (fun _ _ _ h => h) (Or.inl ⟨by rfl, ?_⟩) (by assumption) ?_
                    rotate_left 1
                    · (intro w hSw; (try dsimp only at hSw); go_simp)
                      all_goals (try with_reducible rfl)
                    try simp only [Act.put, List.setIfInBounds_toArray, List.set_cons_zero, List.set_cons_succ]
                    refine wpAnyH_take (i := 5) (oi := { dst := some 105, op := Op.move (Operand.tmp 9), type := 3, pos := "l8_patch.go:273", after := #[], guard := none }) (v := ?_) rfl (by kernel_rfl) (by kernel_rfl) (by kernel_rfl) (fun _ _ _ h => h) (Or.inl ⟨by rfl, ?_⟩) (by assumption) ?_
                    rotate_left 1
                    · (intro w hSw; (try dsimp only at hSw); go_simp)
                      all_goals (try with_reducible rfl)
                    try simp only [Act.put, List.setIfInBounds_toArray, List.set_cons_zero, List.set_cons_succ]
                    refine wpAnyH_take (i := 6) (oi := { dst := some 106, op := Op.indexAddr 27 (Operand.tmp 104) (Operand.tmp 105), type := 0, pos := "l8_patch.go:273", after := #[{ on := 4, ground := Ground.data }, { on := 5, ground := Ground.data }], guard := none }) (v := ?_) rfl (by kernel_rfl) (by kernel_rfl) (by kernel_rfl) (fun _ _ _ h => h) (Or.inl ⟨by rfl, ?_⟩) (by assumption) ?_
                    rotate_left 1
                    · (intro w hSw; (try dsimp only at hSw); go_simp)
                      all_goals (try with_reducible rfl)
                    try simp only [Act.put, List.setIfInBounds_toArray, List.set_cons_zero, List.set_cons_succ]
                    refine wpAnyH_take (i := 7) (oi := { dst := some 107, op := Op.load 29 (Operand.tmp 106), type := 29, pos := "l8_patch.go:273", after := #[{ on := 6, ground := Ground.data }], guard := none }) (v := ?_) rfl (by kernel_rfl) (by kernel_rfl) (by kernel_rfl) (fun _ _ _ h => h) (Or.inl ⟨by rfl, ?_⟩) (by assumption) ?_
                    rotate_left 1
                    · (intro w hSw; (try dsimp only at hSw); go_simp)
                      all_goals (try with_reducible rfl)
                    try simp only [Act.put, List.setIfInBounds_toArray, List.set_cons_zero, List.set_cons_succ]
                    refine wpAnyH_ready (rs := [8]) (by kernel_rfl) (by simp) ?_
                    refine AllReadyH.cons (o := { dst := some 108, op := Op.call { callee := Callee.value (Operand.func 53), args := #[Operand.tmp 102, Operand.tmp 107], argTypes := #[29, 29] }, type := 29, pos := "l8_patch.go:273", after := #[{ on := 2, ground := Ground.data }, { on := 7, ground := Ground.data }], guard := none }) rfl (fun K hK => ?_) ?_
                    · go_simp
                      (go_at_call 53; refine (Hid.out HCP).mono ?_; (try clear o3 b3 c0 c1 c2 c3 c4 x0 x1 x2 x3 x4); rintro e w4 ⟨p3, n3, p3', n3', rfl, ⟨f3, b3, c0, c1, c2, c3, c4, x0, x1, x2, x3, x4⟩, f3f, hsz4, hA4, HOWN, HB4, HVK⟩)
                      refine hK.out _ _ ?_ (fun hHeld0 => ?_)
                      · try dsimp only
                        go_keep
                      clear hK K hHeld
                      try simp only [Act.put, List.setIfInBounds_toArray, List.set_cons_zero, List.set_cons_succ]
                      refine wpAnyH_ready (rs := [9]) (by kernel_rfl) (by simp) ?_
                      refine AllReadyH.cons (o := { dst := some 109, op := Op.buildSlice 27 1 #[(0, Operand.tmp 108)], type := 27, pos := "l8_patch.go:273", after := #[{ on := 8, ground := Ground.data }], guard := none }) rfl (fun K hK => ?_) ?_
                      · go_simp
                        refine hK.out _ _ ?_ (fun hHeld1 => ?_)
                        · try dsimp only
                          go_keep
                        clear hK K hHeld0
                        try simp only [Act.put, List.setIfInBounds_toArray, List.set_cons_zero, List.set_cons_succ]
                        refine wpAnyH_ready (rs := [10]) (by kernel_rfl) (by simp) ?_
                        refine AllReadyH.cons (o := { dst := some 110, op := Op.call { callee := Callee.builtin Builtin.append, args := #[Operand.tmp 101, Operand.tmp 109], argTypes := #[27, 27] }, type := 27, pos := "l8_patch.go:273", after := #[{ on := 1, ground := Ground.data }, { on := 9, ground := Ground.data }, { on := 8, ground := Ground.chain }], guard := none }) rfl (fun K hK => ?_) ?_
                        · (refine step_append_lies _ (by rfl) _ _ _ (by rfl) (w.heap.size + 4) 29 i0 _ 5 80 Try.underlying27 hi0 hz0 hz1 hz2 rfl (by omega) (.slice x l.length xc) l.length xs (by rfl) (HOWN.out.alloc _) ⟨w4.heap.size, 0, none⟩ 1 1 [.int .i64 u.kind, .int .i64 u.num, .string u.text, .slice p3 u.list.length n3, .slice p3' u.names.length n3'] (by rfl) (by rfl) (World.news_of_block (cs := #[.int .i64 u.kind, .int .i64 u.num, .string u.text, .slice p3 u.list.length n3, .slice p3' u.names.length n3']) (t := 29) (fr := (0, 0)) (heap_alloc_newS w4 _)) (by simp [Value.oneCell']) (by omega) (by unfold maxLen; omega) (by omega) (by simp; omega) (w4.heap.size + 1) (by simp) ?_; intro g2 cap_g2 w5 hown_g2 hgr_g2 hat_g2 hlt_g2; have HGR5 : Hid _ := hgr_g2; have g3 := HGR5.out.cell (a := ⟨w.heap.size + 1 + 1 + 1, 3, none⟩) ((World.cell?_alloc_lt _ _ _ (cell_lt f3)).trans f3) (HS3.out.gr.far (by (try dsimp only); omega)).1; have h3 := HGR5.out.cell (a := ⟨w.heap.size + 1, 3, none⟩) ((World.cell?_alloc_lt _ _ _ (cell_lt b3)).trans b3) (HS3.out.gr.far (by (try dsimp only); omega)).1; have d0 := HGR5.out.cell (a := ⟨lb, loff + j * 5, none⟩) ((World.cell?_alloc_lt _ _ _ (cell_lt c0)).trans c0) (HS3.out.gr.far (by (try dsimp only); omega)).1; have d1 := HGR5.out.cell (a := ⟨lb, loff + j * 5 + 1, none⟩) ((World.cell?_alloc_lt _ _ _ (cell_lt c1)).trans c1) (HS3.out.gr.far (by (try dsimp only); omega)).1; have d2 := HGR5.out.cell (a := ⟨lb, loff + j * 5 + 2, none⟩) ((World.cell?_alloc_lt _ _ _ (cell_lt c2)).trans c2) (HS3.out.gr.far (by (try dsimp only); omega)).1; have d3 := HGR5.out.cell (a := ⟨lb, loff + j * 5 + 3, none⟩) ((World.cell?_alloc_lt _ _ _ (cell_lt c3)).trans c3) (HS3.out.gr.far (by (try dsimp only); omega)).1; have d4 := HGR5.out.cell (a := ⟨lb, loff + j * 5 + 4, none⟩) ((World.cell?_alloc_lt _ _ _ (cell_lt c4)).trans c4) (HS3.out.gr.far (by (try dsimp only); omega)).1; have y0 := HGR5.out.cell (a := ⟨xb, 0, none⟩) ((World.cell?_alloc_lt _ _ _ (cell_lt x0)).trans x0) HXF.out; have y1 := HGR5.out.cell (a := ⟨xb, 1, none⟩) ((World.cell?_alloc_lt _ _ _ (cell_lt x1)).trans x1) HXF.out; have y2 := HGR5.out.cell (a := ⟨xb, 2, none⟩) ((World.cell?_alloc_lt _ _ _ (cell_lt x2)).trans x2) HXF.out; have y3 := HGR5.out.cell (a := ⟨xb, 3, none⟩) ((World.cell?_alloc_lt _ _ _ (cell_lt x3)).trans x3) HXF.out; have y4 := HGR5.out.cell (a := ⟨xb, 4, none⟩) ((World.cell?_alloc_lt _ _ _ (cell_lt x4)).trans x4) HXF.out; have f3f' : w5.frozen? ⟨w.heap.size + 1 + 1 + 1, 3, none⟩ = false := (HGR5.out.frozen_far ⟨w.heap.size + 1 + 1 + 1, 3, none⟩ (by simp; omega) NBv.out).trans ((World.frozen?_of_block (w := w4) (Below.heap_alloc _ _ _ (cell_lt f3))).trans f3f); have HOWN5 : Hid _ := hown_g2; have HAT5 : Hid _ := hat_g2; clear hown_g2 hgr_g2 hat_g2)
                          refine hK.out _ _ ?_ (fun hHeld2 => ?_)
                          · try dsimp only
                            go_keep
                          clear hK K hHeld1
                          try simp only [Act.put, List.setIfInBounds_toArray, List.set_cons_zero, List.set_cons_succ]
                          refine wpAnyH_take (i := 11) (oi := { dst := some 111, op := Op.fieldAddr 29 (Operand.tmp 5) 3, type := 0, pos := "l8_patch.go:273", after := #[{ on := 0, ground := Ground.phase }, { on := 1, ground := Ground.phase }, { on := 2, ground := Ground.phase }, { on := 3, ground := Ground.phase }, { on := 4, ground := Ground.phase }, { on := 5, ground := Ground.phase }, { on := 6, ground := Ground.phase }, { on := 7, ground := Ground.phase }, { on := 8, ground := Ground.phase }, { on := 9, ground := Ground.phase }, { on := 10, ground := Ground.phase }], guard := none }) (v := ?_) rfl (by kernel_rfl) (by kernel_rfl) (by kernel_rfl) (fun _ _ _ h => h) (Or.inl ⟨by rfl, ?_⟩) (by assumption) ?_
                          rotate_left 1
                          · (intro w hSw; (try dsimp only at hSw); go_simp)
                            all_goals (try with_reducible rfl)
                          try simp only [Act.put, List.setIfInBounds_toArray, List.set_cons_zero, List.set_cons_succ]
                          refine wpAnyH_done (by kernel_rfl) ?_ _
                          intro KK hKK
                          go_simp
                          refine hKK _ _ ?_
                          clear hKK KK
                          have HS4 : Hid (MdSt w (w5.setCell ⟨w.heap.size + 3, 3, none⟩ (.slice (some ⟨g2, 0, none⟩) (l.length + 1) cap_g2)) k #[.int .i64 v.kind, .int .i64 v.num, .string v.text, .slice va v.list.length vc, .slice va' v.names.length vc'] #[.int .i64 m.kind, .int .i64 m.num, .string m.text, .slice (some ⟨lb, loff, none⟩) m.list.length mc, .slice (some ⟨nb, noff, none⟩) m.names.length mc'] (l ++ [u]) (xs ++ [.int .i64 u.kind, .int .i64 u.num, .string u.text, .slice p3 u.list.length n3, .slice p3' u.names.length n3']) (ns ++ [m.names[j]]) (some ⟨g2, 0, none⟩) cap_g2 (some ⟨g, 0, none⟩) cap_g) := HS3.out.step rfl HB4.out HVK.out HOWN5.out HGR5.out HAT5.out
                          clear HOWN5 HGR5 HAT5 HVK HB4 HOWN f3 f3f g3 h3 d0 d1 d2 d3 d4 b3 c0 c1 c2 c3 c4 f3f' hsz4 hA4 hlt_g2 HCP x0 x1 x2 x3 x4 y0 y1 y2 y3 y4
                          go_wp2_with fail
                          exact ⟨⟨j + 1, l ++ [u], ns ++ [m.names[j]], xs ++ [.int .i64 u.kind, .int .i64 u.num, .string u.text, .slice p3 u.list.length n3, .slice p3' u.names.length n3'], some ⟨g2, 0, none⟩, cap_g2, some ⟨g, 0, none⟩, cap_g, by go_num, by omega, by simp; omega, by simp; omega, HLN2, HNS2, HS4⟩, by simp [intOf]; omega⟩
                        exact AllReadyH.nil
                      exact AllReadyH.nil
                    exact AllReadyH.nil
                  exact AllReadyH.nil
                exact AllReadyH.nil
            · have hjl : j = (prsOf m).length := by omega
              have hlti : decide ((j : Int) < (m.names.length : Int)) = false := decide_eq_false (by omega)
              have HFIN : Hid (mdo (k + 1) v m = ⟨5, 0, ⟨#[]⟩, l, ns⟩) := by
                obtain ⟨e1, e2⟩ := HLN.out
                rw [hjl, List.take_length] at e1 e2
                show _ = _
                rw [HE.out, e1, e2]
                rfl
              have hl24 : l.length ≤ 1000 := by omega
              have hn24 : ns.length ≤ 1000 := by omega
              have HVAL : Hid (VlK wr (w.heap.size + 4) wr.heap.size (k + 1) ⟨5, 0, ⟨#[]⟩, l, ns⟩ [.int .i64 5, .int .i64 0, .string ⟨#[]⟩, .slice x l.length xc, .slice y ns.length yc]) := HST.out.value hl24 hn24 HNS.out
              obtain ⟨o0, o1, o2, o3, o4⟩ := out_box HST.out.bo
              obtain ⟨r0, r1, r2, r3, r4⟩ := res_box HST.out.br
              have rf := res_frozen HST.out.br
              have hz1 : w.heap.size + 1 + 1 < wr.heap.size := cell_lt r0
              have HBEL : Hid (Below w.heap.size w wr) := HST.out.bel
              clear hjl HST
              go_wp2_with fail
              refine bodyPost_ret (v := .agg #[.int .i64 5, .int .i64 0, .string ⟨#[]⟩, .slice x l.length xc, .slice y ns.length yc]) (by simp [results, Try.results53, go_sem, hz1, r0, r1, r2, r3, r4]; try rfl) rfl ?_
              rw [HFIN.out]
              refine ⟨x, xc, y, yc, rfl, fun W hW => VlR.base (Nat.le_add_right _ _) _ _ _ (HVAL.out W (fun b h1 h2 => ?_)), ((((HBEL.out.setCell (by simp; omega) _).setCell (by simp; omega) _).setCell (by simp; omega) _).setCell (by simp; omega) _).setCell (by simp; omega) _⟩
              rw [hW b (by omega) (by simpa [World.setCell] using h2)]
              simp only [World.setCell, Array.getElem?_modify]
              repeat rw [if_neg (by omega)]

theorem md_all : ∀ k : Nat, SpecMD k
  | 0 => fun _ _ _ _ _ _ _ h _ _ _ => h.elim
  | k + 1 => md_step k (md_all k)

end Go.Proofs.Ytdaohfeajicamaa
