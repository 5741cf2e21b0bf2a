
/-
  DERIVED. THE WALK OF impl.formWithin.
-/
import Derived.Test.YtdaohfeajicamaaTreeAt
import Derived.Test.YtdaohfeajicamaaRepF
import Derived.Test.YtdaohfeajicamaaFmAs
import Derived.Test.YtdaohfeajicamaaFmIx
namespace Go.Proofs.Ytdaohfeajicamaa
open Go.RowKit
set_option linter.unusedVariables false
set_option linter.unusedSimpArgs false

def InC (k : Nat) (z : Value) (o : Option Vl) (w : World) (e : Ending) (w' : World) : Prop :=
  (match o with
  | some t => ∃ f, e = .returned (.tuple #[f, .bool true]) ∧ FmR w' 0 k t f
  | none => e = .returned (.tuple #[z, .bool false])) ∧ Below w.heap.size w w'

theorem row_nil (w : World) (k : Nat) : Row w 0 2 32 (BrC w 0 k) ([] : List (ByteArray × Vl)) (.slice none 0 0) := Or.inl ⟨rfl, rfl⟩
theorem idx_nil {s : ByteArray} {r : Int} (h : IdxP [] s r) : r = -1 := by
  rcases h with ⟨i, hi, _⟩ | ⟨rfl, _⟩
  · exact absurd hi (Nat.not_lt_zero _)
  · rfl

set_option maxHeartbeats 1000000 in
theorem formWithin_any (k : Nat) (t : Vl) (v : Value) (s : ByteArray) (w : World) (hs : s.size ≤ 140737488351232) (ht : FmR w 0 (k + 1) t v) :
    Calls Try.prog 47 #[v, .string s] w (InC k .nilIface (treeO t s) w) := by
  rcases ht with ⟨h0, rfl⟩ | ⟨h0, rfl⟩ | ⟨h0, rfl⟩ | ⟨h0, rfl⟩ | ⟨h0, vl, rfl, hrow⟩ | ⟨h0, hl, vl, rfl, hrow⟩ | ⟨h0, rfl⟩ | ⟨h0, rfl⟩
  · have HO : Hid (treeO t s = none) := by show _ = _; unfold treeO; rw [if_neg (by omega)]
    have ta := no_null
    go_enter Try.func47, Try.ntmps47
    go_wp2_with fail
    refine (indexOf_any k [] _ s w (row_nil w k)).mono ?_
    rintro e w1 ⟨r, rfl, hi, hb1⟩
    obtain rfl := idx_nil hi
    have HB : Hid (Below w.heap.size w w1) := hb1
    clear hb1 hi
    go_wp2_with fail
    refine bodyPost_ret (v := .tuple #[.nilIface, .bool false]) (by simp [results, Try.results47, go_sem]) rfl ?_
    unfold InC
    rw [HO.out]
    exact ⟨rfl, HB.out⟩
  · have HO : Hid (treeO t s = none) := by show _ = _; unfold treeO; rw [if_neg (by omega)]
    have ta := no_bool
    go_enter Try.func47, Try.ntmps47
    go_wp2_with fail
    refine (indexOf_any k [] _ s w (row_nil w k)).mono ?_
    rintro e w1 ⟨r, rfl, hi, hb1⟩
    obtain rfl := idx_nil hi
    have HB : Hid (Below w.heap.size w w1) := hb1
    clear hb1 hi
    go_wp2_with fail
    refine bodyPost_ret (v := .tuple #[.nilIface, .bool false]) (by simp [results, Try.results47, go_sem]) rfl ?_
    unfold InC
    rw [HO.out]
    exact ⟨rfl, HB.out⟩
  · have HO : Hid (treeO t s = none) := by show _ = _; unfold treeO; rw [if_neg (by omega)]
    have ta := no_num
    go_enter Try.func47, Try.ntmps47
    go_wp2_with fail
    refine (indexOf_any k [] _ s w (row_nil w k)).mono ?_
    rintro e w1 ⟨r, rfl, hi, hb1⟩
    obtain rfl := idx_nil hi
    have HB : Hid (Below w.heap.size w w1) := hb1
    clear hb1 hi
    go_wp2_with fail
    refine bodyPost_ret (v := .tuple #[.nilIface, .bool false]) (by simp [results, Try.results47, go_sem]) rfl ?_
    unfold InC
    rw [HO.out]
    exact ⟨rfl, HB.out⟩
  · have HO : Hid (treeO t s = none) := by show _ = _; unfold treeO; rw [if_neg (by omega)]
    have ta := no_text
    go_enter Try.func47, Try.ntmps47
    go_wp2_with fail
    refine (indexOf_any k [] _ s w (row_nil w k)).mono ?_
    rintro e w1 ⟨r, rfl, hi, hb1⟩
    obtain rfl := idx_nil hi
    have HB : Hid (Below w.heap.size w w1) := hb1
    clear hb1 hi
    go_wp2_with fail
    refine bodyPost_ret (v := .tuple #[.nilIface, .bool false]) (by simp [results, Try.results47, go_sem]) rfl ?_
    unfold InC
    rw [HO.out]
    exact ⟨rfl, HB.out⟩
  · have HO : Hid (treeO t s = none) := by show _ = _; unfold treeO; rw [if_neg (by omega)]
    have ta := no_list
    go_enter Try.func47, Try.ntmps47
    go_wp2_with fail
    refine (indexOf_any k [] _ s w (row_nil w k)).mono ?_
    rintro e w1 ⟨r, rfl, hi, hb1⟩
    obtain rfl := idx_nil hi
    have HB : Hid (Below w.heap.size w w1) := hb1
    clear hb1 hi
    go_wp2_with fail
    refine bodyPost_ret (v := .tuple #[.nilIface, .bool false]) (by simp [results, Try.results47, go_sem]) rfl ?_
    unfold InC
    rw [HO.out]
    exact ⟨rfl, HB.out⟩
  · have ta := yes_tree
    obtain ⟨a, c, rfl, hw, hrest⟩ := Row.len hrow
    have HO : Hid (treeO t s = findL t.names t.list s) := by show _ = _; unfold treeO; rw [if_pos h0]
    have HR : Hid (Row w 0 2 32 (BrC w 0 k) (t.names.zip t.list) (.slice a (t.names.zip t.list).length c)) := hrow
    have HREST : Hid _ := hrest
    have HF : Hid (∀ r, IdxP (t.names.zip t.list) s r → (r = -1 ∧ findL t.names t.list s = none) ∨ ∃ (i : Nat) (h : i < (t.names.zip t.list).length), r = (i : Int) ∧ findL t.names t.list s = some (t.names.zip t.list)[i].2) := idx_find t.names t.list s hl
    clear hrow hrest hl h0
    generalize t.names.zip t.list = P at *
    have hli : (P.length : Int) * 32 ≤ 140737488351232 := by omega
    go_enter Try.func47, Try.ntmps47
    go_wp2_with fail
    refine (indexOf_any k P _ s w HR.out).mono ?_
    rintro e w1 ⟨r, rfl, hi, hb1⟩
    have HB : Hid (Below w.heap.size w w1) := hb1
    rcases HF.out r hi with ⟨rfl, hf⟩ | ⟨i, hip, rfl, hf⟩
    · have HM : Hid (treeO t s = none) := HO.out.trans hf
      clear hb1 hi hf
      go_wp2_with fail
      refine bodyPost_ret (v := .tuple #[.nilIface, .bool false]) (by simp [results, Try.results47, go_sem]) rfl ?_
      unfold InC
      rw [HM.out]
      exact ⟨rfl, HB.out⟩
    · have HM : Hid (treeO t s = some P[i].2) := HO.out.trans hf
      have hii : (i : Int) < (P.length : Int) := by omega
      have hi0 : ¬ (i : Int) < 0 := by omega
      obtain ⟨b, off, rfl, _, hcs⟩ := HREST.out (List.ne_nil_of_length_pos (by omega))
      obtain ⟨cs, _, hc, f, rfl, hR⟩ := hcs i hip
      obtain ⟨T, x, rfl⟩ := FmR.iface hR
      have hk : Keeps 0 w w1 := Keeps.of_below hb1 (Nat.le_refl _) _
      have c0 := (hc.keeps hk (Nat.zero_le _)) 0 (by simp)
      have c1 := (hc.keeps hk (Nat.zero_le _)) 1 (by simp)
      simp only [Nat.add_zero, List.getElem?_cons_zero, List.getElem?_cons_succ] at c0 c1
      have HFR : Hid (FmR w1 0 k P[i].2 (.iface T x)) := FmR.keeps hk _ _ _ hR
      clear hb1 hi hf hcs hc hR hk HREST HR HF
      go_wp2_with fail
      refine bodyPost_ret (v := .tuple #[.iface T x, .bool true]) (by simp [results, Try.results47, go_sem]) rfl ?_
      unfold InC
      rw [HM.out]
      exact ⟨⟨_, rfl, HFR.out⟩, HB.out⟩
  · have HO : Hid (treeO t s = none) := by show _ = _; unfold treeO; rw [if_neg (by omega)]
    have ta := no_var
    go_enter Try.func47, Try.ntmps47
    go_wp2_with fail
    refine (indexOf_any k [] _ s w (row_nil w k)).mono ?_
    rintro e w1 ⟨r, rfl, hi, hb1⟩
    obtain rfl := idx_nil hi
    have HB : Hid (Below w.heap.size w w1) := hb1
    clear hb1 hi
    go_wp2_with fail
    refine bodyPost_ret (v := .tuple #[.nilIface, .bool false]) (by simp [results, Try.results47, go_sem]) rfl ?_
    unfold InC
    rw [HO.out]
    exact ⟨rfl, HB.out⟩
  · have HO : Hid (treeO t s = none) := by show _ = _; unfold treeO; rw [if_neg (by omega)]
    have ta := no_word
    go_enter Try.func47, Try.ntmps47
    go_wp2_with fail
    refine (indexOf_any k [] _ s w (row_nil w k)).mono ?_
    rintro e w1 ⟨r, rfl, hi, hb1⟩
    obtain rfl := idx_nil hi
    have HB : Hid (Below w.heap.size w w1) := hb1
    clear hb1 hi
    go_wp2_with fail
    refine bodyPost_ret (v := .tuple #[.nilIface, .bool false]) (by simp [results, Try.results47, go_sem]) rfl ?_
    unfold InC
    rw [HO.out]
    exact ⟨rfl, HB.out⟩

end Go.Proofs.Ytdaohfeajicamaa
