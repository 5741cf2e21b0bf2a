/-
  DERIVED. THE WALKS OF spec.TypePut, impl.TypePut: both write the same.
-/
import Derived.Test.YtlmldkkodfgomaaL2Type
import Derived.Test.YtlmldkkodfgomaaTypeFormed
import Derived.Test.YtlmldkkodfgomaaL2Put
import Derived.Test.YtlmldkkodfgomaaTypeText
namespace Go.Proofs.Ytlmldkkodfgomaa
open Go.RowKit
set_option linter.unusedVariables false
set_option linter.unusedSimpArgs false

/-- What both write. -/
def putT (t : Ty) : ByteArray := if formedB 3 t then textT 3 t else ByteArray.empty

theorem putT_yes {t : Ty} (h : formedB 3 t = true) : putT t = textT 3 t := by simp [putT, h]
theorem putT_no {t : Ty} (h : formedB 3 t = false) : putT t = ByteArray.empty := by simp [putT, h]

set_option maxHeartbeats 400000 in
theorem specTypePut_any (k : Nat) (t : Ty) (v : Value) (w : World) (ht : TyR w 0 k t [.string t.name, v, .bool t.must]) :
    Calls Try.prog 5 #[.agg #[.string t.name, v, .bool t.must]] w fun e w' => e = .returned (.string (putT t)) ∧ Below w.heap.size w w' := by
  obtain ⟨a, cap, rfl⟩ := ht.slice
  have HR : Hid (∀ o, TyR (w.alloc o) 0 k t [.string t.name, .slice a t.of.length cap, .bool t.must]) := fun o => TyR.keeps ((Keeps.refl _ _).alloc o) k _ _ ht
  clear ht
  cases hf : formedB 3 t
  · have HP : Hid (putT t = ByteArray.empty) := putT_no hf
    go_enter Try.func5, Try.ntmps5
    go_wp2_with fail
    refine (l2Type_any 2 k t _ _ (by omega) (HR.out _)).mono ?_
    rintro e w1 ⟨rfl, hb1⟩
    rw [show 2 + 1 = 3 from rfl, hf]
    have HB : Hid (Below w.heap.size w w1) := ((Below.refl _ _).alloc (Nat.le_refl _) _).trans (hb1.mono (by simp))
    clear hb1
    go_wp2_with fail
    go_ret
    exact ⟨ret_string HP.out.symm, HB.out⟩
  · have HP : Hid (putT t = textT 3 t) := putT_yes hf
    have HF : Hid (formedB 3 t = true) := hf
    go_enter Try.func5, Try.ntmps5
    go_wp2_with fail
    refine (l2Type_any 2 k t _ _ (by omega) (HR.out _)).mono ?_
    rintro e w1 ⟨rfl, hb1⟩
    rw [show 2 + 1 = 3 from rfl, hf]
    have HB : Hid (Below w.heap.size w w1) := ((Below.refl _ _).alloc (Nat.le_refl _) _).trans (hb1.mono (by simp))
    have HR1 : Hid (TyR w1 0 k t [.string t.name, .slice a t.of.length cap, .bool t.must]) := TyR.keeps (Keeps.of_below hb1 (Nat.le_refl _) _) k _ _ (HR.out _)
    obtain ⟨hc, hfz⟩ := bcell hb1
    clear hb1 HR hf
    go_wp2_with fail
    refine (l2Put_any 3 k t _ _ (by omega) HF.out HR1.out).mono ?_
    rintro e w2 ⟨rfl, hb2⟩
    have HB2 : Hid (Below w.heap.size w w2) := HB.out.trans (hb2.mono HB.out.size)
    clear hb2 hc hfz
    go_wp2_with fail
    go_ret
    exact ⟨ret_string HP.out.symm, HB2.out⟩

set_option maxHeartbeats 400000 in
theorem implTypePut_any (k : Nat) (t : Ty) (v : Value) (w : World) (ht : TyR w 0 k t [.string t.name, v, .bool t.must]) :
    Calls Try.prog 7 #[.agg #[.string t.name, v, .bool t.must]] w fun e w' => e = .returned (.string (putT t)) ∧ Below w.heap.size w w' := by
  obtain ⟨a, cap, rfl⟩ := ht.slice
  have HR : Hid (∀ o, TyR (w.alloc o) 0 k t [.string t.name, .slice a t.of.length cap, .bool t.must]) := fun o => TyR.keeps ((Keeps.refl _ _).alloc o) k _ _ ht
  clear ht
  cases hf : formedB 3 t
  · have HP : Hid (putT t = ByteArray.empty) := putT_no hf
    go_enter Try.func7, Try.ntmps7
    go_wp2_with fail
    refine (typeFormed_any 2 k t _ _ (by omega) (HR.out _)).mono ?_
    rintro e w1 ⟨rfl, hb1⟩
    rw [show 2 + 1 = 3 from rfl, hf]
    have HB : Hid (Below w.heap.size w w1) := ((Below.refl _ _).alloc (Nat.le_refl _) _).trans (hb1.mono (by simp))
    clear hb1
    go_wp2_with fail
    go_ret
    exact ⟨ret_string HP.out.symm, HB.out⟩
  · have HP : Hid (putT t = textT 3 t) := putT_yes hf
    have HF : Hid (formedB 3 t = true) := hf
    go_enter Try.func7, Try.ntmps7
    go_wp2_with fail
    refine (typeFormed_any 2 k t _ _ (by omega) (HR.out _)).mono ?_
    rintro e w1 ⟨rfl, hb1⟩
    rw [show 2 + 1 = 3 from rfl, hf]
    have HB : Hid (Below w.heap.size w w1) := ((Below.refl _ _).alloc (Nat.le_refl _) _).trans (hb1.mono (by simp))
    have HR1 : Hid (TyR w1 0 k t [.string t.name, .slice a t.of.length cap, .bool t.must]) := TyR.keeps (Keeps.of_below hb1 (Nat.le_refl _) _) k _ _ (HR.out _)
    obtain ⟨hc, hfz⟩ := bcell hb1
    clear hb1 HR hf
    go_wp2_with fail
    refine (typeText_any 3 k t _ _ (by omega) HF.out HR1.out).mono ?_
    rintro e w2 ⟨rfl, hb2⟩
    have HB2 : Hid (Below w.heap.size w w2) := HB.out.trans (hb2.mono HB.out.size)
    clear hb2 hc hfz
    go_wp2_with fail
    go_ret
    exact ⟨ret_string HP.out.symm, HB2.out⟩

end Go.Proofs.Ytlmldkkodfgomaa
