
/-
  DERIVED. THE WALKS OF value() of forms: a value that owns its memory.
-/
import Derived.Test.YtdaohfeajicamaaVlOwn
import Derived.Test.YtdaohfeajicamaaVlInfo
import Derived.Test.YtdaohfeajicamaaVlFormOf
namespace Go.Proofs.Ytdaohfeajicamaa
open Go.RowKit
set_option linter.unusedVariables false
set_option linter.unusedSimpArgs false

/-- What value() of a form of t answers. -/
def ValP (k : Nat) (t : Vl) (w : World) (e : Ending) (w' : World) : Prop :=
  ∃ vl vn, e = .returned (.agg #[.int .i64 t.kind, .int .i64 t.num, .string t.text, vl, vn]) ∧ VlO w' k w.heap.size w'.heap.size t [.int .i64 t.kind, .int .i64 t.num, .string t.text, vl, vn] ∧ Below w.heap.size w w'

/-- The function that value() is, of a form's type. -/
def mth (T : TypeId) : Nat :=
  if T = 69 then 135 else if T = 70 then 136 else if T = 71 then 137 else if T = 72 then 138
  else if T = 74 then 139 else if T = 78 then 140 else if T = 81 then 141 else 142

theorem empty_text {s : ByteArray} (h : s.toList.isEmpty = true) : s = ByteArray.empty := by
  have h1 : s.toList = [] := List.isEmpty_iff.1 h
  rw [ByteArray.toList_eq] at h1
  cases s with
  | mk d => simp at h1; subst h1; rfl

theorem parts_no_list {kd nm : Int} {tx : ByteArray} {n m : Nat} (h : partsB kd nm tx n m = true) (h4 : kd ≠ 4) (h5 : kd ≠ 5) : n = 0 ∧ m = 0 := by
  simp only [partsB, Bool.and_eq_true, Bool.or_eq_true, beq_iff_eq, decide_eq_true_eq] at h
  omega
theorem parts_no_num {kd nm : Int} {tx : ByteArray} {n m : Nat} (h : partsB kd nm tx n m = true) (h4 : kd ≠ 1) (h5 : kd ≠ 2) : nm = 0 := by
  simp only [partsB, Bool.and_eq_true, Bool.or_eq_true, beq_iff_eq, decide_eq_true_eq] at h
  omega
theorem parts_no_text {kd nm : Int} {tx : ByteArray} {n m : Nat} (h : partsB kd nm tx n m = true) (h3 : kd ≠ 3) (h6 : kd ≠ 6) (h7 : kd ≠ 7) : tx = ByteArray.empty := by
  simp only [partsB, Bool.and_eq_true, Bool.or_eq_true, beq_iff_eq, decide_eq_true_eq] at h
  exact empty_text (by rcases h.1.1.2 with h | h; omega; exact h)
theorem parts_no_names {kd nm : Int} {tx : ByteArray} {n m : Nat} (h : partsB kd nm tx n m = true) (h5 : kd ≠ 5) : m = 0 := by
  simp only [partsB, Bool.and_eq_true, Bool.or_eq_true, beq_iff_eq, decide_eq_true_eq] at h
  omega

theorem vlO_plain {w : World} {k lo hi : Nat} {t : Vl} (hh : lo ≤ hi) (hl : t.list.length = 0) (hn : t.names.length = 0) (h1 : I64 t.kind) (h2 : I64 t.num) (h3 : t.text.size ≤ 140737488351232) :
    VlO w (k + 1) lo hi t [.int .i64 t.kind, .int .i64 t.num, .string t.text, .slice none 0 0, .slice none 0 0] :=
  ⟨_, _, lo, lo, rfl, h1, h2, h3, Nat.le_refl _, hh, Or.inl ⟨List.eq_nil_of_length_eq_zero hl, rfl⟩, Or.inl ⟨List.eq_nil_of_length_eq_zero hn, rfl⟩, fun b h => h.none.elim, fun b h => h.none.elim⟩

theorem i64_small {n : Int} (h : -4294967296 ≤ n ∧ n ≤ 4294967296) : I64 n := ⟨by omega, by omega⟩

/-- A value without lists, told by its parts. -/
theorem valP_plain {k : Nat} {t : Vl} {kd nm : Int} {tx : ByteArray} {w w' : World} (e1 : kd = t.kind) (e2 : nm = t.num) (e3 : tx = t.text) (hl : t.list.length = 0) (hn : t.names.length = 0) (h1 : I64 t.kind) (h2 : I64 t.num) (h3 : t.text.size ≤ 140737488351232) (hb : Below w.heap.size w w') :
    ValP (k + 1) t w (.returned (.agg #[.int .i64 kd, .int .i64 nm, .string tx, .slice none 0 0, .slice none 0 0])) w' := by
  subst e1 e2 e3
  exact ⟨_, _, rfl, vlO_plain hb.size hl hn h1 h2 h3, hb⟩

set_option maxHeartbeats 400000 in
theorem nullValue_any (k : Nat) (t : Vl) (w : World) (h0 : t.kind = 0) (ho : okB false (k + 1) t = true) : Calls Try.prog 135 #[.agg #[]] w (ValP (k + 1) t w) := by
  rw [ok_k0 _ _ h0] at ho
  obtain ⟨hl, hn⟩ := parts_no_list ho (by omega) (by omega)
  have hnum := parts_no_num ho (by omega) (by omega)
  have htx := parts_no_text ho (by omega) (by omega) (by omega)
  have HX : Hid (∀ w', Below w.heap.size w w' → ValP (k + 1) t w (.returned (.agg #[.int .i64 0, .int .i64 0, .string ByteArray.empty, .slice none 0 0, .slice none 0 0])) w') := fun w' hb => valP_plain h0.symm hnum.symm htx.symm hl hn (i64_small (by omega)) (i64_small (by omega)) (by rw [htx]; simp) hb
  clear ho hl hn hnum htx h0
  go_enter Try.func135, Try.ntmps135
  go_wp2_with fail
  exact bodyPost_ret (v := .agg #[.int .i64 0, .int .i64 0, .string ByteArray.empty, .slice none 0 0, .slice none 0 0]) (by simp [results, Try.results135, go_sem]; try rfl) rfl (HX.out _ (((Below.refl _ _).alloc (Nat.le_refl _) _).alloc (by simp) _))

set_option maxHeartbeats 400000 in
theorem boolValue_any (k : Nat) (t : Vl) (w : World) (h0 : t.kind = 1) (ho : okB false (k + 1) t = true) : Calls Try.prog 136 #[.bool (t.num == 1)] w (ValP (k + 1) t w) := by
  rw [ok_k1 _ _ h0] at ho
  simp only [Bool.and_eq_true, Bool.or_eq_true, beq_iff_eq] at ho
  obtain ⟨ho, h01⟩ := ho
  obtain ⟨hl, hn⟩ := parts_no_list ho (by omega) (by omega)
  have htx := parts_no_text ho (by omega) (by omega) (by omega)
  have HX : Hid (∀ w' n, n = t.num → Below w.heap.size w w' → ValP (k + 1) t w (.returned (.agg #[.int .i64 1, .int .i64 n, .string ByteArray.empty, .slice none 0 0, .slice none 0 0])) w') := fun w' n hn' hb => valP_plain h0.symm hn' htx.symm hl hn (i64_small (by omega)) (i64_small (by omega)) (by rw [htx]; simp) hb
  clear ho hl hn htx h0
  rcases h01 with h | h
  · have he : (t.num == 1) = false := by rw [h]; rfl
    rw [he]
    have HH : Hid (t.num = 0) := h
    clear he h
    go_enter Try.func136, Try.ntmps136
    go_wp2_with fail
    all_goals first | (exfalso; simp at *; done) | exact bodyPost_ret (v := .agg #[.int .i64 1, .int .i64 0, .string ByteArray.empty, .slice none 0 0, .slice none 0 0]) (by simp [results, Try.results136, go_sem]; try rfl) rfl (HX.out _ _ HH.out.symm ((Below.refl _ _).alloc (Nat.le_refl _) _))
  · have he : (t.num == 1) = true := by rw [h]; rfl
    rw [he]
    have HH : Hid (t.num = 1) := h
    clear he h
    go_enter Try.func136, Try.ntmps136
    go_wp2_with fail
    all_goals first | (exfalso; simp at *; done) | exact bodyPost_ret (v := .agg #[.int .i64 1, .int .i64 1, .string ByteArray.empty, .slice none 0 0, .slice none 0 0]) (by simp [results, Try.results136, go_sem]; try rfl) rfl (HX.out _ _ HH.out.symm ((Below.refl _ _).alloc (Nat.le_refl _) _))

set_option maxHeartbeats 400000 in
theorem numValue_any (k : Nat) (t : Vl) (w : World) (h0 : t.kind = 2) (ho : okB false (k + 1) t = true) : Calls Try.prog 137 #[.int .i64 t.num] w (ValP (k + 1) t w) := by
  rw [ok_k2 _ _ h0] at ho
  simp only [Bool.and_eq_true, decide_eq_true_eq] at ho
  obtain ⟨ho, h01⟩ := ho
  obtain ⟨hl, hn⟩ := parts_no_list ho (by omega) (by omega)
  have htx := parts_no_text ho (by omega) (by omega) (by omega)
  have HX : Hid (∀ w', Below w.heap.size w w' → ValP (k + 1) t w (.returned (.agg #[.int .i64 2, .int .i64 t.num, .string ByteArray.empty, .slice none 0 0, .slice none 0 0])) w') := fun w' hb => valP_plain h0.symm rfl htx.symm hl hn (i64_small (by omega)) (i64_small (by omega)) (by rw [htx]; simp) hb
  clear ho hl hn htx h0
  go_enter Try.func137, Try.ntmps137
  go_wp2_with fail
  exact bodyPost_ret (v := .agg #[.int .i64 2, .int .i64 t.num, .string ByteArray.empty, .slice none 0 0, .slice none 0 0]) (by simp [results, Try.results137, go_sem]; try rfl) rfl (HX.out _ ((Below.refl _ _).alloc (Nat.le_refl _) _))

set_option maxHeartbeats 400000 in
theorem textValue_any (k : Nat) (t : Vl) (w : World) (h0 : t.kind = 3) (ho : okB false (k + 1) t = true) : Calls Try.prog 138 #[.string t.text] w (ValP (k + 1) t w) := by
  rw [ok_k3 _ _ h0] at ho
  simp only [Bool.and_eq_true, decide_eq_true_eq] at ho
  obtain ⟨ho, h01⟩ := ho
  obtain ⟨hl, hn⟩ := parts_no_list ho (by omega) (by omega)
  have hnum := parts_no_num ho (by omega) (by omega)
  have HX : Hid (∀ w', Below w.heap.size w w' → ValP (k + 1) t w (.returned (.agg #[.int .i64 3, .int .i64 0, .string t.text, .slice none 0 0, .slice none 0 0])) w') := fun w' hb => valP_plain h0.symm hnum.symm rfl hl hn (i64_small (by omega)) (i64_small (by omega)) (by omega) hb
  clear ho hl hn h0 hnum h01
  go_enter Try.func138, Try.ntmps138
  go_wp2_with fail
  exact bodyPost_ret (v := .agg #[.int .i64 3, .int .i64 0, .string t.text, .slice none 0 0, .slice none 0 0]) (by simp [results, Try.results138, go_sem]; try rfl) rfl (HX.out _ ((Below.refl _ _).alloc (Nat.le_refl _) _))

theorem ok_var {k : Nat} {t : Vl} (h0 : t.kind = 6) (ho : okB false (k + 1) t = true) : False := by rw [ok_k6 _ _ h0] at ho; simp at ho
theorem ok_word {k : Nat} {t : Vl} (h0 : t.kind = 7) (ho : okB false (k + 1) t = true) : False := by rw [ok_k7 _ _ h0] at ho; simp at ho

def ValC (k : Nat) : Prop := ∀ (t : Vl) (T : TypeId) (x : Value) (w : World), FmR w 0 k t (.iface T x) → okB false k t = true → Calls Try.prog (mth T) #[x] w (ValP k t w)
def ValLC (k : Nat) : Prop := ∀ (t : Vl) (v : Value) (w : World), t.kind = 4 → okB false (k + 1) t = true → Row w 0 1 16 (FmC w 0 k) t.list v → Calls Try.prog 139 #[v] w (ValP (k + 1) t w)
def ValTC (k : Nat) : Prop := ∀ (t : Vl) (v : Value) (w : World), t.kind = 5 → okB false (k + 1) t = true → t.names.length = t.list.length → Row w 0 2 32 (BrC w 0 k) (t.names.zip t.list) v → Calls Try.prog 140 #[v] w (ValP (k + 1) t w)

theorem val_step (k : Nat) (hL : ValLC k) (hT : ValTC k) : ValC (k + 1) := by
  intro t T x w hf ho
  rcases hf with ⟨h0, h⟩ | ⟨h0, h⟩ | ⟨h0, h⟩ | ⟨h0, h⟩ | ⟨h0, vl, h, hrow⟩ | ⟨h0, hl, vl, h, hrow⟩ | ⟨h0, h⟩ | ⟨h0, h⟩
  all_goals
    simp only [Value.iface.injEq] at h
    obtain ⟨rfl, rfl⟩ := h
  · exact nullValue_any k t w h0 ho
  · exact boolValue_any k t w h0 ho
  · exact numValue_any k t w h0 ho
  · exact textValue_any k t w h0 ho
  · exact hL t _ w h0 ho hrow
  · exact hT t _ w h0 ho hl hrow
  · exact (ok_var h0 ho).elim
  · exact (ok_word h0 ho).elim

theorem ok_list_mem {k : Nat} {t : Vl} (h0 : t.kind = 4) (ho : okB false (k + 1) t = true) : t.num = 0 ∧ t.text = ByteArray.empty ∧ t.names = [] ∧ t.list.length ≤ 12 ∧ ∀ (j : Nat) (h : j < t.list.length), okB false k t.list[j] = true := by
  rw [ok_k4 _ _ h0, Bool.and_eq_true] at ho
  obtain ⟨hp, hl⟩ := ho
  simp only [listB, Bool.and_eq_true, decide_eq_true_eq, List.all_eq_true] at hl
  exact ⟨parts_no_num hp (by omega) (by omega), parts_no_text hp (by omega) (by omega) (by omega), List.eq_nil_of_length_eq_zero (parts_no_names hp (by omega)), hl.1, fun j h => hl.2 _ (List.getElem_mem h)⟩
theorem ok_tree_mem {k : Nat} {t : Vl} (h0 : t.kind = 5) (ho : okB false (k + 1) t = true) : t.num = 0 ∧ t.text = ByteArray.empty ∧ t.list.length ≤ 12 ∧ ∀ (j : Nat) (h : j < t.list.length), okB false k t.list[j] = true := by
  rw [ok_k5 _ _ h0, Bool.and_eq_true] at ho
  obtain ⟨hp, hl⟩ := ho
  simp only [treeB, listB, Bool.and_eq_true, decide_eq_true_eq, List.all_eq_true] at hl
  exact ⟨parts_no_num hp (by omega) (by omega), parts_no_text hp (by omega) (by omega) (by omega), hl.1.1.1, fun j h => hl.1.1.2 _ (List.getElem_mem h)⟩

end Go.Proofs.Ytdaohfeajicamaa
