
/-
  DERIVED. THE WALK OF impl.TreeGet.
-/
import Derived.Test.YtehdepnemdbopaaTreeGet
namespace Go.Proofs.Ytehdepnemdbopaa
open Go.RowKit
set_option linter.unusedVariables false
set_option linter.unusedSimpArgs false

def ImplTG (k : Nat) (t : Vl) (s : ByteArray) (w : World) (e : Ending) (w' : World) : Prop :=
  ∃ vl vn, e = .returned (.tuple #[.agg #[.int .i64 (vlOf (treeG t s)).kind, .int .i64 (vlOf (treeG t s)).num, .string (vlOf (treeG t s)).text, vl, vn], .bool (treeG t s).isSome]) ∧
    VlO w' (k + 1) w.heap.size w'.heap.size (vlOf (treeG t s)) [.int .i64 (vlOf (treeG t s)).kind, .int .i64 (vlOf (treeG t s)).num, .string (vlOf (treeG t s)).text, vl, vn] ∧ Below w.heap.size w w'

theorem zero_own (w : World) (k lo hi : Nat) (h : lo ≤ hi) : VlO w (k + 1) lo hi zeroV [.int .i64 0, .int .i64 0, .string ByteArray.empty, .slice none 0 0, .slice none 0 0] :=
  vlO_plain (t := zeroV) h rfl rfl ⟨by decide, by decide⟩ ⟨by decide, by decide⟩ (by simp [zeroV])

theorem implTG_none {k : Nat} {t : Vl} {s : ByteArray} {w W : World} (hG : treeG t s = none) (hb : Below w.heap.size w W) :
    ImplTG k t s w (.returned (.tuple #[.agg #[.int .i64 0, .int .i64 0, .string ByteArray.empty, .slice none 0 0, .slice none 0 0], .bool false])) W := by
  unfold ImplTG
  rw [hG]
  exact ⟨_, _, rfl, zero_own _ _ _ _ hb.size, hb⟩

set_option maxHeartbeats 1000000 in
theorem implTreeGet_any (k : Nat) (hk5 : 5 ≤ k) (t : Vl) (vl vn : Value) (s : ByteArray) (w : World) (hs : s.size ≤ 140737488351232) (ht : VlR w 0 (k + 2) t [.int .i64 t.kind, .int .i64 t.num, .string t.text, vl, vn]) :
    Calls Try.prog 9 #[.agg #[.int .i64 t.kind, .int .i64 t.num, .string t.text, vl, vn], .string s] w (ImplTG k t s w) := by
  obtain ⟨al, cl, an, cn, hv⟩ := ht.cells
  simp only [List.cons.injEq, true_and, and_true] at hv
  obtain ⟨rfl, rfl⟩ := hv
  have HR : Hid (∀ W, Keeps 0 w W → VlR W 0 (k + 2) t [.int .i64 t.kind, .int .i64 t.num, .string t.text, .slice al t.list.length cl, .slice an t.names.length cn]) := fun W h => VlR.keeps h _ _ _ ht
  clear ht
  go_enter Try.func9, Try.ntmps9
  go_wp2_with fail
  refine (form_all false 6 (by omega) (k + 2) t _ _ _ (HR.out _ (((Keeps.refl _ _).alloc _).alloc _))).mono ?_
  rintro e w1 ⟨f, rfl, hF, hb1⟩
  have r0 := cell_on hb1 (p := ⟨w.heap.size + 1, 0, none⟩) (by simp; rfl)
  have r1 := cell_on hb1 (p := ⟨w.heap.size + 1, 1, none⟩) (by simp; rfl)
  have r2 := cell_on hb1 (p := ⟨w.heap.size + 1, 2, none⟩) (by simp; rfl)
  have r3 := cell_on hb1 (p := ⟨w.heap.size + 1, 3, none⟩) (by simp; rfl)
  have r4 := cell_on hb1 (p := ⟨w.heap.size + 1, 4, none⟩) (by simp; rfl)
  have HOR : Hid (Owns w1 (w.heap.size + 1) #[.int .i64 0, .int .i64 0, .string ⟨#[]⟩, .slice none 0 0, .slice none 0 0] 29) := (Owns.made2 w _ _ _).below hb1 (by simp)
  have rf := fun o => HOR.out.frozen o
  have HB1 : Hid (Below w.heap.size w w1) := (((Below.refl _ _).alloc (Nat.le_refl _) _).alloc (by simp) _).trans (hb1.mono (by simp <;> omega))
  have hz1 : w.heap.size + 1 < w1.heap.size := cell_lt r0
  have HF : Hid (okB false 6 t = true → FmR w1 0 (k + 2) t f) := fun h => FmR.base (Nat.zero_le _) _ _ _ (hF h)
  clear hb1 hF
  cases hok : okB false 6 t
  · have HG : Hid (treeG t s = none) := by show treeG t s = none; unfold treeG; rw [hok]; rfl
    clear hok HF
    go_wp2_with fail
    exact bodyPost_ret (v := .tuple #[.agg #[.int .i64 0, .int .i64 0, .string ByteArray.empty, .slice none 0 0, .slice none 0 0], .bool false]) (by simp [results, Try.results9, go_sem, hz1, r0, r1, r2, r3, r4]; try rfl) rfl (implTG_none HG.out (((((HB1.out.setCell (by simp) _).setCell (by simp) _).setCell (by simp) _).setCell (by simp) _).setCell (by simp) _))
  · have HG : Hid (treeG t s = treeO t s) := by show treeG t s = _; unfold treeG; rw [hok]; rfl
    have hfm := HF.out hok
    obtain ⟨T0, x0, rfl⟩ := FmR.iface hfm
    have HFM : Hid (FmR w1 0 (k + 2) t (.iface T0 x0)) := hfm
    have HOK : Hid (okB false 6 t = true) := hok
    clear hok HF hfm
    go_wp2_with fail
    refine (formWithin_any (k + 1) t _ s _ hs HFM.out).mono ?_
    rintro e w2 ⟨hm, hb2⟩
    replace r0 := cell_on hb2 r0
    replace r1 := cell_on hb2 r1
    replace r2 := cell_on hb2 r2
    replace r3 := cell_on hb2 r3
    replace r4 := cell_on hb2 r4
    replace rf : ∀ o, w2.frozen? ⟨w.heap.size + 1, o, none⟩ = false := fun o => (hb2.frozen (p := ⟨w.heap.size + 1, o, none⟩) hz1).trans (rf o)
    have HB2 : Hid (Below w.heap.size w w2) := HB1.out.trans (hb2.mono HB1.out.size)
    replace hz1 : w.heap.size + 1 < w2.heap.size := cell_lt r0
    clear hb2 HFM
    match ho : treeO t s with
    | none =>
      rw [ho] at hm
      have he : e = _ := hm
      subst he
      have HG2 : Hid (treeG t s = none) := HG.out.trans ho
      clear hm ho HG
      go_wp2_with fail
      exact bodyPost_ret (v := .tuple #[.agg #[.int .i64 0, .int .i64 0, .string ByteArray.empty, .slice none 0 0, .slice none 0 0], .bool false]) (by simp [results, Try.results9, go_sem, hz1, r0, r1, r2, r3, r4]; try rfl) rfl (implTG_none HG2.out (((((HB2.out.setCell (by simp) _).setCell (by simp) _).setCell (by simp) _).setCell (by simp) _).setCell (by simp) _))
    | some x =>
      rw [ho] at hm
      obtain ⟨f2, he, hfm2⟩ := hm
      subst he
      obtain ⟨T, y, rfl⟩ := FmR.iface hfm2
      obtain ⟨hmt, hcf⟩ := mth_leads hfm2
      have HG2 : Hid (treeG t s = some x) := HG.out.trans ho
      have hox : okB false (k + 1) x = true := okB_le (by omega) (treeO_ok ho HOK.out).2
      have HV : Hid (Calls Try.prog (mth T) #[y] w2 (ValP (k + 1) x w2)) := val_all (k + 1) x T y w2 hfm2 hox
      clear ho HG hox hfm2
      go_wp2_with fail
      refine (Hid.out HV).mono ?_
      rintro e w3 ⟨vl3, vn3, rfl, hO3, hb3⟩
      obtain ⟨p1, n1, p1', n1', hv1⟩ := hO3.cells
      simp only [List.cons.injEq, true_and, and_true] at hv1
      obtain ⟨rfl, rfl⟩ := hv1
      replace r0 := cell_on hb3 r0
      replace r1 := cell_on hb3 r1
      replace r2 := cell_on hb3 r2
      replace r3 := cell_on hb3 r3
      replace r4 := cell_on hb3 r4
      replace rf : ∀ o, w3.frozen? ⟨w.heap.size + 1, o, none⟩ = false := fun o => (hb3.frozen (p := ⟨w.heap.size + 1, o, none⟩) hz1).trans (rf o)
      have HB3 : Hid (Below w.heap.size w w3) := HB2.out.trans (hb3.mono HB2.out.size)
      have hz3 : w.heap.size + 1 < w3.heap.size := cell_lt r0
      have HO3 : Hid (VlO w3 (k + 1) w2.heap.size w3.heap.size x [.int .i64 x.kind, .int .i64 x.num, .string x.text, .slice p1 x.list.length n1, .slice p1' x.names.length n1']) := hO3
      clear hb3 hO3
      go_wp2_with fail
      refine bodyPost_ret (v := .tuple #[.agg #[.int .i64 x.kind, .int .i64 x.num, .string x.text, .slice p1 x.list.length n1, .slice p1' x.names.length n1'], .bool true]) (by simp [results, Try.results9, go_sem, hz3, r0, r1, r2, r3, r4]; try rfl) rfl ?_
      unfold ImplTG
      rw [HG2.out]
      refine ⟨_, _, rfl, VlO.wide (lo := w2.heap.size) (hi := w3.heap.size) (by have := HB2.out.size; omega) (by simp [World.setCell]) _ _ _ (VlO.same _ _ _ _ _ (fun b h1 h2 => ?_) HO3.out), ((((HB3.out.setCell (by simp) _).setCell (by simp) _).setCell (by simp) _).setCell (by simp) _).setCell (by simp) _⟩
      simp only [World.setCell, Array.getElem?_modify]
      repeat rw [if_neg (by omega)]

end Go.Proofs.Ytehdepnemdbopaa
