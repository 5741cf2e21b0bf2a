
/-
  DERIVED. THE WALKS OF spec.TreeGet, impl.TreeGet.
-/
import Derived.Test.YtehdepnemdbopaaFmValT
import Derived.Test.YtehdepnemdbopaaVlCopyW
import Derived.Test.YtehdepnemdbopaaFmIn
import Derived.Test.YtehdepnemdbopaaVlOk
namespace Go.Proofs.Ytehdepnemdbopaa
open Go.RowKit
set_option linter.unusedVariables false
set_option linter.unusedSimpArgs false

theorem val_all : ∀ k : Nat, ValC k
  | 0 => fun _ _ _ _ h _ => h.elim
  | k + 1 => val_step k (valL_step k (val_all k)) (valT_step k (val_all k))

def zeroV : Vl := ⟨0, 0, ByteArray.empty, [], []⟩
def vlOf (o : Option Vl) : Vl := match o with | some x => x | none => zeroV
/-- What TreeGet answers. -/
def treeG (t : Vl) (s : ByteArray) : Option Vl := if okB false 6 t then treeO t s else none

theorem zero_read (w : World) (base k : Nat) : VlR w base (k + 1) zeroV [.int .i64 0, .int .i64 0, .string ByteArray.empty, .slice none 0 0, .slice none 0 0] :=
  ⟨_, _, rfl, ⟨by decide, by decide⟩, ⟨by decide, by decide⟩, by simp [zeroV], Or.inl ⟨rfl, rfl⟩, Or.inl ⟨rfl, rfl⟩⟩

theorem zero_readQ (w : World) (base k : Nat) : VlQ w base (k + 1) zeroV [.int .i64 0, .int .i64 0, .string ByteArray.empty, .slice none 0 0, .slice none 0 0] :=
  ⟨_, _, rfl, ⟨by decide, by decide⟩, ⟨by decide, by decide⟩, by decide, Or.inl ⟨rfl, rfl⟩, Or.inl ⟨rfl, rfl⟩, fun h => absurd rfl h⟩
theorem ok_names_le {t : Vl} (h : okB false 6 t = true) : t.names.length ≤ t.list.length := by
  by_cases h5 : t.kind = 5
  · rw [ok_k5 _ _ h5, Bool.and_eq_true] at h
    have h1 := h.2
    simp only [treeB, Bool.and_eq_true, decide_eq_true_eq] at h1
    omega
  · have hp : partsB t.kind t.num t.text t.list.length t.names.length = true := by
      cases hp : partsB t.kind t.num t.text t.list.length t.names.length
      · rw [ok_parts false 5 hp] at h; simp at h
      · rfl
    have := parts_no_names hp h5
    omega

set_option maxHeartbeats 400000 in
theorem specValueOk_any (k : Nat) (t : Vl) (vl vn : Value) (w : World) (ht : VlR w 0 k t [.int .i64 t.kind, .int .i64 t.num, .string t.text, vl, vn]) :
    Calls Try.prog 15 #[.agg #[.int .i64 t.kind, .int .i64 t.num, .string t.text, vl, vn]] w fun e w' => e = .returned (.bool (okB false 6 t)) ∧ Below w.heap.size w w' := by
  have HR : Hid (∀ W, Keeps 0 w W → VlR W 0 k t [.int .i64 t.kind, .int .i64 t.num, .string t.text, vl, vn]) := fun W h => VlR.keeps h _ _ _ ht
  clear ht
  go_enter Try.func15, Try.ntmps15
  go_wp2_with fail
  refine (l1Ok_all false 6 (by omega) k t _ _ _ (HR.out _ ((Keeps.refl _ _).alloc _))).mono ?_
  rintro e w1 ⟨rfl, hb1⟩
  have HB : Hid (Below w.heap.size w w1) := ((Below.refl _ _).alloc (Nat.le_refl _) _).trans (hb1.mono (by simp))
  clear hb1
  go_wp2_with fail
  go_ret
  exact ⟨rfl, HB.out⟩

theorem okB_mono {words : Bool} : ∀ (d : Nat) (t : Vl), okB words d t = true → okB words (d + 1) t = true
  | 0, t, h => by simp [okB] at h
  | d + 1, t, h => by
    rw [okB_succ] at h ⊢
    simp only [Bool.and_eq_true, List.all_eq_true] at h ⊢
    exact ⟨h.1, fun x hx => okB_mono d x (h.2 x hx)⟩
theorem okB_le {words : Bool} {d e : Nat} (h : d ≤ e) {t : Vl} (ht : okB words d t = true) : okB words e t = true := by
  induction h with
  | refl => exact ht
  | step _ ih => exact okB_mono _ _ ih
theorem findL_mem : ∀ (ns : List ByteArray) (vs : List Vl) (s : ByteArray) (x : Vl), findL ns vs s = some x → x ∈ vs
  | [], _, _, _, h => by simp [findL] at h
  | _ :: _, [], _, _, h => by simp [findL] at h
  | n :: ns, v :: vs, s, x, h => by
    unfold findL at h
    split at h
    · simp only [Option.some.injEq] at h; rw [h]; exact List.mem_cons_self
    · exact List.mem_cons_of_mem _ (findL_mem ns vs s x h)
theorem treeO_ok {t x : Vl} {s : ByteArray} (h : treeO t s = some x) (ho : okB false 6 t = true) : x ∈ t.list ∧ okB false 5 x = true := by
  unfold treeO at h
  split at h
  · have hm := findL_mem _ _ _ _ h
    refine ⟨hm, ?_⟩
    rw [okB_succ] at ho
    simp only [Bool.and_eq_true, List.all_eq_true] at ho
    exact ho.2 x hm
  · simp at h

def SpecTG (k : Nat) (t : Vl) (s : ByteArray) (w : World) (e : Ending) (w' : World) : Prop :=
  ∃ vl vn, e = .returned (.tuple #[.agg #[.int .i64 (vlOf (treeG t s)).kind, .int .i64 (vlOf (treeG t s)).num, .string (vlOf (treeG t s)).text, vl, vn], .bool (treeG t s).isSome]) ∧
    VlQ w' w.heap.size (k + 1) (vlOf (treeG t s)) [.int .i64 (vlOf (treeG t s)).kind, .int .i64 (vlOf (treeG t s)).num, .string (vlOf (treeG t s)).text, vl, vn] ∧ Below w.heap.size w w'

set_option maxHeartbeats 1000000 in
theorem specTreeGet_any (k : Nat) (t : Vl) (vl vn : Value) (s : ByteArray) (w : World) (hs : s.size ≤ 140737488351232) (ht : VlR w 0 (k + 2) t [.int .i64 t.kind, .int .i64 t.num, .string t.text, vl, vn]) :
    Calls Try.prog 7 #[.agg #[.int .i64 t.kind, .int .i64 t.num, .string t.text, vl, vn], .string s] w (SpecTG k t s w) := by
  obtain ⟨al, cl, an, cn, hv⟩ := ht.cells
  simp only [List.cons.injEq, true_and, and_true] at hv
  obtain ⟨rfl, rfl⟩ := hv
  have HR : Hid (∀ W, Keeps 0 w W → VlR W 0 (k + 2) t [.int .i64 t.kind, .int .i64 t.num, .string t.text, .slice al t.list.length cl, .slice an t.names.length cn]) := fun W h => VlR.keeps h _ _ _ ht
  clear ht
  go_enter Try.func7, Try.ntmps7
  go_wp2_with fail
  refine (specValueOk_any (k + 2) t _ _ _ (HR.out _ (((Keeps.refl _ _).alloc _).alloc _))).mono ?_
  rintro e w1 ⟨rfl, hb1⟩
  have b0 := cell_on hb1 (p := ⟨w.heap.size, 0, none⟩) (by simp; rfl)
  have b1 := cell_on hb1 (p := ⟨w.heap.size, 1, none⟩) (by simp; rfl)
  have b2 := cell_on hb1 (p := ⟨w.heap.size, 2, none⟩) (by simp; rfl)
  have b3 := cell_on hb1 (p := ⟨w.heap.size, 3, none⟩) (by simp; rfl)
  have b4 := cell_on hb1 (p := ⟨w.heap.size, 4, none⟩) (by simp; rfl)
  have r0 := cell_on hb1 (p := ⟨w.heap.size + 1, 0, none⟩) (by simp; rfl)
  have r1 := cell_on hb1 (p := ⟨w.heap.size + 1, 1, none⟩) (by simp; rfl)
  have r2 := cell_on hb1 (p := ⟨w.heap.size + 1, 2, none⟩) (by simp; rfl)
  have r3 := cell_on hb1 (p := ⟨w.heap.size + 1, 3, none⟩) (by simp; rfl)
  have r4 := cell_on hb1 (p := ⟨w.heap.size + 1, 4, none⟩) (by simp; rfl)
  have HOR : Hid (Owns w1 (w.heap.size + 1) #[.int .i64 0, .int .i64 0, .string ⟨#[]⟩, .slice none 0 0, .slice none 0 0] 29) := (Owns.made2 w _ _ _).below hb1 (by simp)
  have rf := fun o => HOR.out.frozen o
  have HB1 : Hid (Below w.heap.size w w1) := (((Below.refl _ _).alloc (Nat.le_refl _) _).alloc (by simp) _).trans (hb1.mono (by simp <;> omega))
  have hz1 : w.heap.size + 1 < w1.heap.size := cell_lt r0
  clear hb1
  cases hok : okB false 6 t
  · have hG : treeG t s = none := by unfold treeG; rw [hok]; rfl
    have HG : Hid (treeG t s = none) := hG
    clear hG hok
    go_wp2_with fail
    refine bodyPost_ret (v := .tuple #[.agg #[.int .i64 0, .int .i64 0, .string ByteArray.empty, .slice none 0 0, .slice none 0 0], .bool false]) (by simp [results, Try.results7, go_sem, hz1, r0, r1, r2, r3, r4]; try rfl) rfl ?_
    unfold SpecTG
    rw [HG.out]
    exact ⟨_, _, rfl, zero_readQ _ _ _, ((((HB1.out.setCell (by simp) _).setCell (by simp) _).setCell (by simp) _).setCell (by simp) _).setCell (by simp) _⟩
  · have hG : treeG t s = treeO t s := by unfold treeG; rw [hok]; rfl
    have HG : Hid (treeG t s = treeO t s) := hG
    have hnl := ok_names_le hok
    have HOK : Hid (okB false 6 t = true) := hok
    clear hG hok
    go_wp2_with fail
    refine (l1Tree_any (k + 1) t _ _ s _ hnl hs (HR.out _ (Keeps.of_below HB1.out (Nat.le_refl _) _))).mono ?_
    rintro e w2 ⟨hm, hb2⟩
    replace r0 := cell_on hb2 r0
    replace r1 := cell_on hb2 r1
    replace r2 := cell_on hb2 r2
    replace r3 := cell_on hb2 r3
    replace r4 := cell_on hb2 r4
    replace rf : ∀ o, w2.frozen? ⟨w.heap.size + 1, o, none⟩ = false := fun o => (hb2.frozen (p := ⟨w.heap.size + 1, o, none⟩) hz1).trans (rf o)
    have HB2 : Hid (Below w.heap.size w w2) := HB1.out.trans (hb2.mono HB1.out.size)
    replace hz1 : w.heap.size + 1 < w2.heap.size := cell_lt r0
    have hx : ∃ (x : Vl) (a c a' c' : _), x = vlOf (treeO t s) ∧ e = .returned (.tuple #[.agg #[.int .i64 x.kind, .int .i64 x.num, .string x.text, .slice a x.list.length c, .slice a' x.names.length c'], .bool (treeO t s).isSome]) ∧ VlR w2 0 (k + 1) x [.int .i64 x.kind, .int .i64 x.num, .string x.text, .slice a x.list.length c, .slice a' x.names.length c'] := by
      cases ho : treeO t s with
      | none =>
        rw [ho] at hm
        exact ⟨zeroV, none, 0, none, 0, rfl, hm, zero_read _ _ _⟩
      | some x =>
        rw [ho] at hm
        obtain ⟨vl2, vn2, he, hr⟩ := hm
        obtain ⟨a2, c2, a2', c2', hv2⟩ := hr.cells
        simp only [List.cons.injEq, true_and, and_true] at hv2
        obtain ⟨rfl, rfl⟩ := hv2
        exact ⟨x, a2, c2, a2', c2', rfl, he, hr⟩
    obtain ⟨x, xa, xc, xa', xc', hxe, rfl, hxr⟩ := hx
    have HXE : Hid (x = vlOf (treeO t s)) := hxe
    have HXR : Hid (∀ W, Keeps 0 w2 W → VlR W 0 (k + 1) x [.int .i64 x.kind, .int .i64 x.num, .string x.text, .slice xa x.list.length xc, .slice xa' x.names.length xc']) := fun W h => VlR.keeps h _ _ _ hxr
    generalize hso : (treeO t s).isSome = so at *
    have HSO : Hid ((treeO t s).isSome = so) := hso
    clear hb2 hm hxe hxr hso b0 b1 b2 b3 b4
    go_wp2_with fail
    refine (copy_all (k + 1) x _ _ _ (HXR.out _ ((Keeps.refl _ _).alloc _))).mono ?_
    rintro e w3 ⟨vl3, vn3, rfl, hI, hb3⟩
    obtain ⟨p1, n1, p1', n1', rfl, rfl⟩ := hI.slices
    have HB23 : Hid (Below w2.heap.size w2 w3) := ((Below.refl _ _).alloc (Nat.le_refl _) _).trans (hb3.mono (by simp))
    replace r0 := cell_on HB23.out r0
    replace r1 := cell_on HB23.out r1
    replace r2 := cell_on HB23.out r2
    replace r3 := cell_on HB23.out r3
    replace r4 := cell_on HB23.out r4
    replace rf : ∀ o, w3.frozen? ⟨w.heap.size + 1, o, none⟩ = false := fun o => (HB23.out.frozen (p := ⟨w.heap.size + 1, o, none⟩) hz1).trans (rf o)
    have HB3 : Hid (Below w.heap.size w w3) := HB2.out.trans (HB23.out.mono HB2.out.size)
    have hz13 : w.heap.size + 1 < w3.heap.size := cell_lt r0
    have HI : Hid (VlI w3 (w2.heap.size + 1) w3.heap.size (k + 1) x [.int .i64 x.kind, .int .i64 x.num, .string x.text, .slice p1 x.list.length n1, .slice p1' x.names.length n1']) := size_alloc1 w2 _ ▸ hI
    clear hb3 hI
    go_wp2_with fail
    refine bodyPost_ret (v := .tuple #[.agg #[.int .i64 x.kind, .int .i64 x.num, .string x.text, .slice p1 x.list.length n1, .slice p1' x.names.length n1'], .bool so]) (by simp [results, Try.results7, go_sem, hz13, r0, r1, r2, r3, r4]; try rfl) rfl ?_
    unfold SpecTG
    rw [HG.out, ← HXE.out, HSO.out]
    refine ⟨_, _, rfl, VlQ.base (base := w2.heap.size + 1) (by have := HB2.out.size; omega) _ _ _ (HI.out _ (fun b h1 h2 => ?_)), ((((HB3.out.setCell (by simp) _).setCell (by simp) _).setCell (by simp) _).setCell (by simp) _).setCell (by simp) _⟩
    simp only [World.setCell, Array.getElem?_modify]
    repeat rw [if_neg (by omega)]

end Go.Proofs.Ytehdepnemdbopaa
