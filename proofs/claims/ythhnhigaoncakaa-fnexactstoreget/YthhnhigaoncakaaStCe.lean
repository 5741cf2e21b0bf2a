
/-
  DERIVED. THE WALK OF impl.cellsOf.
-/
import Derived.Test.YthhnhigaoncakaaStTb
import Derived.Test.YthhnhigaoncakaaFmAs
import Derived.Test.YthhnhigaoncakaaVlFormOf
namespace Go.Proofs.Ythhnhigaoncakaa
open Go.RowKit
set_option linter.unusedVariables false
set_option linter.unusedSimpArgs false

theorem size_alloc1c (w : World) (o : Obj) : (w.alloc o).heap.size = w.heap.size + 1 := by simp
/-- What impl.cellsOf answers. -/
def CeC (k : Nat) (t : Vl) (w : World) (e : Ending) (w' : World) : Prop :=
  ∃ a n c, e = .returned (.tuple #[.slice a n c, .bool (okB false 4 t && decide (t.kind = 5))]) ∧ (okB false 4 t = true → t.kind = 5 → t.names.length = t.list.length ∧ TrJ w' w.heap.size w'.heap.size k t (.slice a n c)) ∧ Below w.heap.size w w'

theorem CeC.no {k : Nat} {t : Vl} {w w' : World} {e : Ending} (he : e = .returned (.tuple #[.slice none 0 0, .bool false])) (hn : (okB false 4 t && decide (t.kind = 5)) = false) (hb : Below w.heap.size w w') : CeC k t w e w' := by
  subst he
  refine ⟨none, 0, 0, by rw [hn], fun h1 h2 => ?_, hb⟩
  rw [h1, decide_eq_true h2] at hn
  simp at hn

set_option maxHeartbeats 1000000 in
theorem cellsOf_any (k : Nat) (t : Vl) (vl vn : Value) (w : World) (ht : VlR w 0 (k + 1) t [.int .i64 t.kind, .int .i64 t.num, .string t.text, vl, vn]) :
    Calls Try.prog 35 #[.agg #[.int .i64 t.kind, .int .i64 t.num, .string t.text, vl, vn]] w (CeC k t w) := by
  have HR : Hid (∀ W, Keeps 0 w W → VlR W 0 (k + 1) t [.int .i64 t.kind, .int .i64 t.num, .string t.text, vl, vn]) := fun W h => VlR.keeps h _ _ _ ht
  clear ht
  go_enter Try.func35, Try.ntmps35
  go_wp2_with fail
  refine (form_all false 4 (by omega) (k + 1) t _ _ _ (HR.out _ ((Keeps.refl _ _).alloc _))).mono ?_
  rintro e w1 ⟨f, rfl, hf, hb1⟩
  have HB : Hid (Below w.heap.size w w1) := ((Below.refl _ _).alloc (Nat.le_refl _) _).trans (hb1.mono (by simp))
  rw [size_alloc1c] at hf
  clear hb1 HR
  cases ho : okB false 4 t
  · go_wp2_with fail
    exact bodyPost_ret (v := .tuple #[.slice none 0 0, .bool false]) (by simp [results, Try.results35, go_sem]) rfl (CeC.no rfl (by rw [ho]; rfl) HB.out)
  · have HF := hf ho
    clear hf
    rcases HF with ⟨h0, rfl⟩ | ⟨h0, rfl⟩ | ⟨h0, rfl⟩ | ⟨h0, rfl⟩ | ⟨h0, vl', rfl, hrow⟩ | ⟨h0, hl, vl', rfl, hrow⟩ | ⟨h0, rfl⟩ | ⟨h0, rfl⟩
    · have ta := no_null
      have HN : Hid ((okB false 4 t && decide (t.kind = 5)) = false) := by show _ = _; rw [ho, decide_eq_false (by omega)]; rfl
      clear h0
      go_wp2_with fail
      exact bodyPost_ret (v := .tuple #[.slice none 0 0, .bool false]) (by simp [results, Try.results35, go_sem]) rfl (CeC.no rfl HN.out HB.out)
    · have ta := no_bool
      have HN : Hid ((okB false 4 t && decide (t.kind = 5)) = false) := by show _ = _; rw [ho, decide_eq_false (by omega)]; rfl
      clear h0
      go_wp2_with fail
      exact bodyPost_ret (v := .tuple #[.slice none 0 0, .bool false]) (by simp [results, Try.results35, go_sem]) rfl (CeC.no rfl HN.out HB.out)
    · have ta := no_num
      have HN : Hid ((okB false 4 t && decide (t.kind = 5)) = false) := by show _ = _; rw [ho, decide_eq_false (by omega)]; rfl
      clear h0
      go_wp2_with fail
      exact bodyPost_ret (v := .tuple #[.slice none 0 0, .bool false]) (by simp [results, Try.results35, go_sem]) rfl (CeC.no rfl HN.out HB.out)
    · have ta := no_text
      have HN : Hid ((okB false 4 t && decide (t.kind = 5)) = false) := by show _ = _; rw [ho, decide_eq_false (by omega)]; rfl
      clear h0
      go_wp2_with fail
      exact bodyPost_ret (v := .tuple #[.slice none 0 0, .bool false]) (by simp [results, Try.results35, go_sem]) rfl (CeC.no rfl HN.out HB.out)
    · have ta := no_list
      have HN : Hid ((okB false 4 t && decide (t.kind = 5)) = false) := by show _ = _; rw [ho, decide_eq_false (by omega)]; rfl
      clear h0 hrow
      go_wp2_with fail
      exact bodyPost_ret (v := .tuple #[.slice none 0 0, .bool false]) (by simp [results, Try.results35, go_sem]) rfl (CeC.no rfl HN.out HB.out)
    · have ta := yes_tree
      obtain ⟨a, c, rfl, _, _⟩ := Row.len hrow
      have HROW : Hid (Row w1 (w.heap.size + 1) 2 32 (BrC w1 (w.heap.size + 1) k) (t.names.zip t.list) (.slice a (t.names.zip t.list).length c)) := hrow
      have HX : Hid (t.kind = 5 ∧ t.names.length = t.list.length ∧ okB false 4 t = true) := ⟨h0, hl, ho⟩
      clear h0 hl hrow ho
      go_wp2_with fail
      refine bodyPost_ret (v := .tuple #[.slice a (t.names.zip t.list).length c, .bool true]) (by simp [results, Try.results35, go_sem]) rfl ?_
      refine ⟨a, (t.names.zip t.list).length, c, ?_, fun _ _ => ⟨HX.out.2.1, ?_⟩, HB.out⟩
      · rw [HX.out.2.2, decide_eq_true HX.out.1]; rfl
      · exact TrJ.mk (Row.base (by omega) (BrC.base (by omega) k) HROW.out)
    · have ta := no_var
      have HN : Hid ((okB false 4 t && decide (t.kind = 5)) = false) := by show _ = _; rw [ho, decide_eq_false (by omega)]; rfl
      clear h0
      go_wp2_with fail
      exact bodyPost_ret (v := .tuple #[.slice none 0 0, .bool false]) (by simp [results, Try.results35, go_sem]) rfl (CeC.no rfl HN.out HB.out)
    · have ta := no_word
      have HN : Hid ((okB false 4 t && decide (t.kind = 5)) = false) := by show _ = _; rw [ho, decide_eq_false (by omega)]; rfl
      clear h0
      go_wp2_with fail
      exact bodyPost_ret (v := .tuple #[.slice none 0 0, .bool false]) (by simp [results, Try.results35, go_sem]) rfl (CeC.no rfl HN.out HB.out)

end Go.Proofs.Ythhnhigaoncakaa
