
/-
  DERIVED. THE WALK OF impl.JsonPut.
-/
import Derived.Test.YtegnalfkdponhaaDoorJpE
import Derived.Test.YtegnalfkdponhaaDoorVlFormOf
namespace Go.Proofs.YtegnalfkdponhaaDoor
open Go.RowKit
set_option linter.unusedVariables false
set_option linter.unusedSimpArgs false

/-- What JsonPut answers. -/
def jsonL (t : Vl) : List UInt8 := if okB false 6 t then putL 6 t else []
def Tab (w : World) : Prop := Lib.TabIs Tryd.prog w "internal/strconv.uint64pow10" .u64 Lib.pow10Tab
theorem Tab.on {w w' : World} (h : Tab w) (hb : Below w.heap.size w w') : Tab w' := Lib.tabBelow_of_tabIs h w' hb

set_option maxHeartbeats 1000000 in
set_option maxRecDepth 100000 in
theorem implJsonPut_any (k : Nat) (t : Vl) (vl vn : Value) (w : World) (hv : VlR w 0 k t [.int .i64 t.kind, .int .i64 t.num, .string t.text, vl, vn]) (ht : Tab w) :
    Calls Tryd.prog 9 #[.agg #[.int .i64 t.kind, .int .i64 t.num, .string t.text, vl, vn]] w fun e w' => e = .returned (.string ⟨(jsonL t).toArray⟩) ∧ Below w.heap.size w w' := by
  have HR : Hid (∀ W, Keeps 0 w W → VlR W 0 k t [.int .i64 t.kind, .int .i64 t.num, .string t.text, vl, vn]) := fun W h => VlR.keeps h _ _ _ hv
  have HT : Hid (Tab w) := ht
  clear hv ht
  go_enter Tryd.func9, Tryd.ntmps9
  go_wp2_with fail
  refine (form_all false 6 (by omega) k t _ _ _ (HR.out _ ((Keeps.refl _ _).alloc _))).mono ?_
  rintro e w1 ⟨f, rfl, hf, hb1⟩
  have HB : Hid (Below w.heap.size w w1) := ((Below.refl _ _).alloc (Nat.le_refl _) _).trans (hb1.mono (by simp))
  have HF : Hid (okB false 6 t = true → FmR w1 0 k t f) := fun h => FmR.base (Nat.zero_le _) _ _ _ (hf h)
  clear hb1 hf HR
  cases ho : okB false 6 t
  · have HJ : Hid (jsonL t = []) := by show jsonL t = _; unfold jsonL; rw [ho]; rfl
    clear ho
    go_wp2_with fail
    go_ret
    exact ⟨by rw [HJ.out]; rfl, HB.out⟩
  · obtain ⟨T, y, rfl⟩ := FmR.iface (HF.out ho)
    have HJ : Hid (jsonL t = putL 6 t) := by show jsonL t = _; unfold jsonL; rw [ho]; rfl
    have HB6 : Hid (([] : List UInt8).length + bw 6 ≤ 140737488351232) := by show _ ≤ _; decide +kernel
    have HC : Hid (∀ W, W = w1.alloc (Obj.cells #[.pointer none, .slice none 0 0] 51) → Calls Tryd.prog 23 #[.pointer (some ⟨w1.heap.size, 0, none⟩), .iface T y, .bool false] W fun e w' => e = .returned (.tuple #[]) ∧ Bld w1.heap.size w1.heap.size ([] ++ putL 6 t) w' ∧ Fra w1.heap.size w1.heap.size W w') := fun W hW => by
      subst hW
      exact write_all 6 k t _ w1 w1.heap.size w1.heap.size [] _ (HF.out ho) ho (Nat.le_refl _) ((Below.refl _ _).alloc (Nat.le_refl _) _) (fun w' hb => HT.out.on (HB.out.trans (hb.mono HB.out.size))) (Lib.fresh_isBuilder _ _ w1) HB6.out
    clear HF ho
    go_wp2_with fail
    refine (Hid.out HC _ rfl).mono ?_
    rintro e w2 ⟨rfl, h2, hf2⟩
    have HB2 : Hid (Bld w1.heap.size w1.heap.size (putL 6 t) w2) := h2
    have HBW : Hid (Below w1.heap.size w1 w2) := ((Below.refl _ w1).alloc (Nat.le_refl _) _).trans hf2.below
    clear h2 hf2
    go_wp2_with fail
    refine (Tryd.Builder_String_any w1.heap.size w1.heap.size (putL 6 t) w2 HB2.out HBW.out.size).mono ?_
    rintro e w3 ⟨rfl, hb3⟩
    have HR : Hid (Below w.heap.size w w3) := HB.out.trans ((HBW.out.trans hb3).mono HB.out.size)
    clear hb3
    go_wp2_with fail
    go_ret
    exact ⟨by rw [HJ.out]; rfl, HR.out⟩

end Go.Proofs.YtegnalfkdponhaaDoor
