
/-
  DERIVED. THE WALKS OF value() of forms: a value that owns its memory.
-/
import Derived.Test.YtdaohfeajicamaaVlOwn
import Derived.Test.YtdaohfeajicamaaVlInfo
import Derived.Test.YtdaohfeajicamaaVlFormOf
namespace Go.Proofs.Ytdaohfeajicamaa
open Go.RowKit
set_option linter.unusedVariables false
set_option linter.unusedSimpArgs false

/-- What value() of a form of t answers. -/
def ValP (k : Nat) (t : Vl) (w : World) (e : Ending) (w' : World) : Prop :=
  ∃ vl vn, e = .returned (.agg #[.int .i64 t.kind, .int .i64 t.num, .string t.text, vl, vn]) ∧ VlO w' k w.heap.size w'.heap.size t [.int .i64 t.kind, .int .i64 t.num, .string t.text, vl, vn] ∧ Below w.heap.size w w'

/-- The function that value() is, of a form's type. -/
def mth (T : TypeId) : Nat :=
  if T = 69 then 135 else if T = 70 then 136 else if T = 71 then 137 else if T = 72 then 138
  else if T = 74 then 139 else if T = 78 then 140 else if T = 81 then 141 else 142

theorem empty_text {s : ByteArray} (h : s.toList.isEmpty = true) : s = ByteArray.empty := by
  have h1 : s.toList = [] := List.isEmpty_iff.1 h
  rw [ByteArray.toList_eq] at h1
  cases s with
  | mk d => simp at h1; subst h1; rfl

theorem parts_no_list {kd nm : Int} {tx : ByteArray} {n m : Nat} (h : partsB kd nm tx n m = true) (h4 : kd ≠ 4) (h5 : kd ≠ 5) : n = 0 ∧ m = 0 := by
  simp only [partsB, Bool.and_eq_true, Bool.or_eq_true, beq_iff_eq, decide_eq_true_eq] at h
  omega
theorem parts_no_num {kd nm : Int} {tx : ByteArray} {n m : Nat} (h : partsB kd nm tx n m = true) (h4 : kd ≠ 1) (h5 : kd ≠ 2) : nm = 0 := by
  simp only [partsB, Bool.and_eq_true, Bool.or_eq_true, beq_iff_eq, decide_eq_true_eq] at h
  omega
theorem parts_no_text {kd nm : Int} {tx : ByteArray} {n m : Nat} (h : partsB kd nm tx n m = true) (h3 : kd ≠ 3) (h6 : kd ≠ 6) (h7 : kd ≠ 7) : tx = ByteArray.empty := by
  simp only [partsB, Bool.and_eq_true, Bool.or_eq_true, beq_iff_eq, decide_eq_true_eq] at h
  exact empty_text (by rcases h.1.1.2 with h | h; omega; exact h)
theorem parts_no_names {kd nm : Int} {tx : ByteArray} {n m : Nat} (h : partsB kd nm tx n m = true) (h5 : kd ≠ 5) : m = 0 := by
  simp only [partsB, Bool.and_eq_true, Bool.or_eq_true, beq_iff_eq, decide_eq_true_eq] at h
  omega

theorem vlO_plain {w : World} {k lo hi : Nat} {t : Vl} (hh : lo ≤ hi) (hl : t.list.length = 0) (hn : t.names.length = 0) (h1 : I64 t.kind) (h2 : I64 t.num) (h3 : t.text.size ≤ 140737488351232) :
    VlO w (k + 1) lo hi t [.int .i64 t.kind, .int .i64 t.num, .string t.text, .slice none 0 0, .slice none 0 0] :=
  ⟨_, _, lo, lo, rfl, h1, h2, h3, Nat.le_refl _, hh, Or.inl ⟨List.eq_nil_of_length_eq_zero hl, rfl⟩, Or.inl ⟨List.eq_nil_of_length_eq_zero hn, rfl⟩, fun b h => h.none.elim, fun b h => h.none.elim⟩

theorem i64_small {n : Int} (h : -4294967296 ≤ n ∧ n ≤ 4294967296) : I64 n := ⟨by omega, by omega⟩

/-- A value without lists, told by its parts. -/
theorem valP_plain {k : Nat} {t : Vl} {kd nm : Int} {tx : ByteArray} {w w' : World} (e1 : kd = t.kind) (e2 : nm = t.num) (e3 : tx = t.text) (hl : t.list.length = 0) (hn : t.names.length = 0) (h1 : I64 t.kind) (h2 : I64 t.num) (h3 : t.text.size ≤ 140737488351232) (hb : Below w.heap.size w w') :
    ValP (k + 1) t w (.returned (.agg #[.int .i64 kd, .int .i64 nm, .string tx, .slice none 0 0, .slice none 0 0])) w' := by
  subst e1 e2 e3
  exact ⟨_, _, rfl, vlO_plain hb.size hl hn h1 h2 h3, hb⟩

/-- Fit to be a form: what a kind has not is not there, names are once and short, nothing is too long. -/
def fmB : Nat → Vl → Bool
  | 0, _ => false
  | k + 1, t => partsB t.kind t.num t.text t.list.length t.names.length && decide (0 ≤ t.kind ∧ t.kind ≤ 5) && (decide (t.kind ≠ 1) || decide (t.num = 0 ∨ t.num = 1)) && decide (-2147483647 ≤ t.num ∧ t.num ≤ 2147483647) && decide (t.text.size ≤ 40) && decide (t.list.length ≤ 1000) &&
      (decide (t.kind ≠ 5) || (decide (t.names.length = t.list.length) && onceB [] t.names)) && t.list.all (fmB k)
theorem fm_parts {k : Nat} {t : Vl} (h : fmB (k + 1) t = true) : partsB t.kind t.num t.text t.list.length t.names.length = true ∧ (0 ≤ t.kind ∧ t.kind ≤ 5) ∧ (t.kind = 1 → t.num = 0 ∨ t.num = 1) ∧ (-2147483647 ≤ t.num ∧ t.num ≤ 2147483647) ∧ t.text.size ≤ 40 ∧ t.list.length ≤ 1000 ∧
    (t.kind = 5 → t.names.length = t.list.length ∧ onceB [] t.names = true) ∧ ∀ x ∈ t.list, fmB k x = true := by
  rw [fmB] at h
  simp only [Bool.and_eq_true, Bool.or_eq_true, decide_eq_true_eq, List.all_eq_true] at h
  obtain ⟨⟨⟨⟨⟨⟨⟨h1, h2⟩, h3⟩, h4⟩, h5⟩, h6⟩, h7⟩, h8⟩ := h
  exact ⟨h1, h2, fun e => h3.resolve_left (fun hn => hn e), h4, h5, h6, fun e => h7.resolve_left (fun hn => hn e), h8⟩
theorem fm_mk {k : Nat} {t : Vl} (h1 : partsB t.kind t.num t.text t.list.length t.names.length = true) (h2 : 0 ≤ t.kind ∧ t.kind ≤ 5) (h3 : t.kind = 1 → t.num = 0 ∨ t.num = 1) (h4 : -2147483647 ≤ t.num ∧ t.num ≤ 2147483647) (h5 : t.text.size ≤ 40) (h6 : t.list.length ≤ 1000)
    (h7 : t.kind = 5 → t.names.length = t.list.length ∧ onceB [] t.names = true) (h8 : ∀ x ∈ t.list, fmB k x = true) : fmB (k + 1) t = true := by
  rw [fmB]
  simp only [Bool.and_eq_true, Bool.or_eq_true, decide_eq_true_eq, List.all_eq_true]
  refine ⟨⟨⟨⟨⟨⟨⟨h1, h2⟩, ?_⟩, h4⟩, h5⟩, h6⟩, ?_⟩, h8⟩
  · by_cases e : t.kind = 1
    · exact Or.inr (h3 e)
    · exact Or.inl e
  · by_cases e : t.kind = 5
    · exact Or.inr (h7 e)
    · exact Or.inl e
theorem ok_fm : ∀ (k : Nat) (t : Vl), okB false k t = true → fmB k t = true
  | 0, _, h => by simp [okB] at h
  | k + 1, t, h => by
    have h0 := h
    have hkids : ∀ x ∈ t.list, fmB k x = true := fun x hx => by
      rw [okB_succ] at h
      simp only [Bool.and_eq_true, List.all_eq_true] at h
      exact ok_fm k x (h.2 x hx)
    have hpl : plainB t.kind t.num t.text t.list.length t.names.length = true := by
      rw [okB_succ] at h
      simp only [Bool.and_eq_true] at h
      exact h.1.1.1
    have hon : onceB [] t.names = true := by
      rw [okB_succ] at h
      simp only [Bool.and_eq_true] at h
      exact h.1.2
    have hkd : t.kind ≤ 5 := by
      rw [okB_succ] at h
      simp only [Bool.and_eq_true, Bool.false_or, decide_eq_true_eq] at h
      exact h.1.1.2
    unfold plainB at hpl
    have hem : ∀ {x : ByteArray}, x.toList.isEmpty = true → x.size = 0 := fun {x} h => by
      rw [ByteArray.toList_eq, List.isEmpty_iff] at h
      show x.data.size = 0
      rw [← Array.length_toList, h]
      rfl
    by_cases k0 : t.kind = 0
    · have hp : partsB t.kind t.num t.text t.list.length t.names.length = true := by rw [ok_k0 _ _ k0] at h0; rw [k0]; exact h0
      simp only [k0, Bool.and_eq_true, beq_iff_eq, decide_eq_true_eq, if_true] at hpl
      exact fm_mk hp (by omega) (fun e => by omega) (by omega) (by have := hem hpl.1.2; omega) (by omega) (fun e => by omega) hkids
    by_cases k1 : t.kind = 1
    · have hp : partsB t.kind t.num t.text t.list.length t.names.length = true := by rw [ok_k1 _ _ k1, Bool.and_eq_true] at h0; rw [k1]; exact h0.1
      simp only [k1, Bool.and_eq_true, beq_iff_eq, decide_eq_true_eq, if_true, show ¬ ((1 : Int) = 0) by decide, if_false] at hpl
      exact fm_mk hp (by omega) (fun e => by omega) (by omega) (by have := hem hpl.1.2; omega) (by omega) (fun e => by omega) hkids
    by_cases k2 : t.kind = 2
    · have hp : partsB t.kind t.num t.text t.list.length t.names.length = true := by rw [ok_k2 _ _ k2, Bool.and_eq_true] at h0; rw [k2]; exact h0.1
      simp only [k2, Bool.and_eq_true, beq_iff_eq, decide_eq_true_eq, if_true, show ¬ ((2 : Int) = 0) by decide, show ¬ ((2 : Int) = 1) by decide, if_false] at hpl
      exact fm_mk hp (by omega) (fun e => by omega) (by omega) (by have := hem hpl.1.2; omega) (by omega) (fun e => by omega) hkids
    by_cases k3 : t.kind = 3
    · have hp : partsB t.kind t.num t.text t.list.length t.names.length = true := by rw [ok_k3 _ _ k3, Bool.and_eq_true] at h0; rw [k3]; exact h0.1
      simp only [k3, Bool.and_eq_true, beq_iff_eq, decide_eq_true_eq, if_true, show ¬ ((3 : Int) = 0) by decide, show ¬ ((3 : Int) = 1) by decide, show ¬ ((3 : Int) = 2) by decide, if_false] at hpl
      exact fm_mk hp (by omega) (fun e => by omega) (by omega) (by omega) (by omega) (fun e => by omega) hkids
    by_cases k4 : t.kind = 4
    · have hp : partsB t.kind t.num t.text t.list.length t.names.length = true := by
        rw [ok_k4 _ _ k4] at h0
        simp only [Bool.and_eq_true] at h0
        rw [k4]
        first | exact h0.1 | exact h0.1.1 | exact h0.1.1.1
      simp only [k4, Bool.and_eq_true, beq_iff_eq, decide_eq_true_eq, if_true, show ¬ ((4 : Int) = 0) by decide, show ¬ ((4 : Int) = 1) by decide, show ¬ ((4 : Int) = 2) by decide, show ¬ ((4 : Int) = 3) by decide, if_false] at hpl
      exact fm_mk hp (by omega) (fun e => by omega) (by omega) (by have := hem hpl.1.1.2; omega) (by omega) (fun e => by omega) hkids
    by_cases k5 : t.kind = 5
    · have hp : partsB t.kind t.num t.text t.list.length t.names.length = true := by
        rw [ok_k5 _ _ k5] at h0
        simp only [Bool.and_eq_true] at h0
        rw [k5]
        first | exact h0.1 | exact h0.1.1 | exact h0.1.1.1 | exact h0.1.1.1.1
      simp only [k5, Bool.and_eq_true, beq_iff_eq, decide_eq_true_eq, if_true, show ¬ ((5 : Int) = 0) by decide, show ¬ ((5 : Int) = 1) by decide, show ¬ ((5 : Int) = 2) by decide, show ¬ ((5 : Int) = 3) by decide, show ¬ ((5 : Int) = 4) by decide, if_false] at hpl
      exact fm_mk hp (by omega) (fun e => by omega) (by omega) (by have := hem hpl.1.1.2; omega) (by omega) (fun _ => ⟨hpl.1.2, hon⟩) hkids
    exfalso
    simp [k0, k1, k2, k3, k4, k5] at hpl
    omega

set_option maxHeartbeats 400000 in
theorem nullValue_fm (k : Nat) (t : Vl) (w : World) (h0 : t.kind = 0) (ho : fmB (k + 1) t = true) : Calls Try.prog 135 #[.agg #[]] w (ValP (k + 1) t w) := by
  obtain ⟨ho, _, _, _, _, _, _, _⟩ := fm_parts ho
  rw [h0] at ho
  obtain ⟨hl, hn⟩ := parts_no_list ho (by omega) (by omega)
  have hnum := parts_no_num ho (by omega) (by omega)
  have htx := parts_no_text ho (by omega) (by omega) (by omega)
  have HX : Hid (∀ w', Below w.heap.size w w' → ValP (k + 1) t w (.returned (.agg #[.int .i64 0, .int .i64 0, .string ByteArray.empty, .slice none 0 0, .slice none 0 0])) w') := fun w' hb => valP_plain h0.symm hnum.symm htx.symm hl hn (i64_small (by omega)) (i64_small (by omega)) (by rw [htx]; simp) hb
  clear ho hl hn hnum htx h0
  go_enter Try.func135, Try.ntmps135
  go_wp2_with fail
  exact bodyPost_ret (v := .agg #[.int .i64 0, .int .i64 0, .string ByteArray.empty, .slice none 0 0, .slice none 0 0]) (by simp [results, Try.results135, go_sem]; try rfl) rfl (HX.out _ (((Below.refl _ _).alloc (Nat.le_refl _) _).alloc (by simp) _))

set_option maxHeartbeats 400000 in
theorem boolValue_fm (k : Nat) (t : Vl) (w : World) (h0 : t.kind = 1) (ho : fmB (k + 1) t = true) : Calls Try.prog 136 #[.bool (t.num == 1)] w (ValP (k + 1) t w) := by
  obtain ⟨ho, _, h01, _, _, _, _, _⟩ := fm_parts ho
  replace h01 := h01 h0
  rw [h0] at ho
  obtain ⟨hl, hn⟩ := parts_no_list ho (by omega) (by omega)
  have htx := parts_no_text ho (by omega) (by omega) (by omega)
  have HX : Hid (∀ w' n, n = t.num → Below w.heap.size w w' → ValP (k + 1) t w (.returned (.agg #[.int .i64 1, .int .i64 n, .string ByteArray.empty, .slice none 0 0, .slice none 0 0])) w') := fun w' n hn' hb => valP_plain h0.symm hn' htx.symm hl hn (i64_small (by omega)) (i64_small (by omega)) (by rw [htx]; simp) hb
  clear ho hl hn htx h0
  rcases h01 with h | h
  · have he : (t.num == 1) = false := by rw [h]; rfl
    rw [he]
    have HH : Hid (t.num = 0) := h
    clear he h
    go_enter Try.func136, Try.ntmps136
    go_wp2_with fail
    all_goals first | (exfalso; simp at *; done) | exact bodyPost_ret (v := .agg #[.int .i64 1, .int .i64 0, .string ByteArray.empty, .slice none 0 0, .slice none 0 0]) (by simp [results, Try.results136, go_sem]; try rfl) rfl (HX.out _ _ HH.out.symm ((Below.refl _ _).alloc (Nat.le_refl _) _))
  · have he : (t.num == 1) = true := by rw [h]; rfl
    rw [he]
    have HH : Hid (t.num = 1) := h
    clear he h
    go_enter Try.func136, Try.ntmps136
    go_wp2_with fail
    all_goals first | (exfalso; simp at *; done) | exact bodyPost_ret (v := .agg #[.int .i64 1, .int .i64 1, .string ByteArray.empty, .slice none 0 0, .slice none 0 0]) (by simp [results, Try.results136, go_sem]; try rfl) rfl (HX.out _ _ HH.out.symm ((Below.refl _ _).alloc (Nat.le_refl _) _))

set_option maxHeartbeats 400000 in
theorem numValue_fm (k : Nat) (t : Vl) (w : World) (h0 : t.kind = 2) (ho : fmB (k + 1) t = true) : Calls Try.prog 137 #[.int .i64 t.num] w (ValP (k + 1) t w) := by
  obtain ⟨ho, _, _, h01, _, _, _, _⟩ := fm_parts ho
  rw [h0] at ho
  obtain ⟨hl, hn⟩ := parts_no_list ho (by omega) (by omega)
  have htx := parts_no_text ho (by omega) (by omega) (by omega)
  have HX : Hid (∀ w', Below w.heap.size w w' → ValP (k + 1) t w (.returned (.agg #[.int .i64 2, .int .i64 t.num, .string ByteArray.empty, .slice none 0 0, .slice none 0 0])) w') := fun w' hb => valP_plain h0.symm rfl htx.symm hl hn (i64_small (by omega)) (i64_small (by omega)) (by rw [htx]; simp) hb
  clear ho hl hn htx h0
  go_enter Try.func137, Try.ntmps137
  go_wp2_with fail
  exact bodyPost_ret (v := .agg #[.int .i64 2, .int .i64 t.num, .string ByteArray.empty, .slice none 0 0, .slice none 0 0]) (by simp [results, Try.results137, go_sem]; try rfl) rfl (HX.out _ ((Below.refl _ _).alloc (Nat.le_refl _) _))

set_option maxHeartbeats 400000 in
theorem textValue_fm (k : Nat) (t : Vl) (w : World) (h0 : t.kind = 3) (ho : fmB (k + 1) t = true) : Calls Try.prog 138 #[.string t.text] w (ValP (k + 1) t w) := by
  obtain ⟨ho, _, _, _, h01, _, _, _⟩ := fm_parts ho
  rw [h0] at ho
  obtain ⟨hl, hn⟩ := parts_no_list ho (by omega) (by omega)
  have hnum := parts_no_num ho (by omega) (by omega)
  have HX : Hid (∀ w', Below w.heap.size w w' → ValP (k + 1) t w (.returned (.agg #[.int .i64 3, .int .i64 0, .string t.text, .slice none 0 0, .slice none 0 0])) w') := fun w' hb => valP_plain h0.symm hnum.symm rfl hl hn (i64_small (by omega)) (i64_small (by omega)) (by omega) hb
  clear ho hl hn h0 hnum h01
  go_enter Try.func138, Try.ntmps138
  go_wp2_with fail
  exact bodyPost_ret (v := .agg #[.int .i64 3, .int .i64 0, .string t.text, .slice none 0 0, .slice none 0 0]) (by simp [results, Try.results138, go_sem]; try rfl) rfl (HX.out _ ((Below.refl _ _).alloc (Nat.le_refl _) _))

theorem numValue_any (k : Nat) (t : Vl) (w : World) (h0 : t.kind = 2) (ho : okB false (k + 1) t = true) : Calls Try.prog 137 #[.int .i64 t.num] w (ValP (k + 1) t w) := numValue_fm k t w h0 (ok_fm _ _ ho)
theorem fm_var {k : Nat} {t : Vl} (h0 : t.kind = 6) (ho : fmB (k + 1) t = true) : False := by have := (fm_parts ho).2.1; omega
theorem fm_word {k : Nat} {t : Vl} (h0 : t.kind = 7) (ho : fmB (k + 1) t = true) : False := by have := (fm_parts ho).2.1; omega

def ValC (k : Nat) : Prop := ∀ (t : Vl) (T : TypeId) (x : Value) (w : World), FmR w 0 k t (.iface T x) → fmB k t = true → Calls Try.prog (mth T) #[x] w (ValP k t w)
def ValLC (k : Nat) : Prop := ∀ (t : Vl) (v : Value) (w : World), t.kind = 4 → fmB (k + 1) t = true → Row w 0 1 16 (FmC w 0 k) t.list v → Calls Try.prog 139 #[v] w (ValP (k + 1) t w)
def ValTC (k : Nat) : Prop := ∀ (t : Vl) (v : Value) (w : World), t.kind = 5 → fmB (k + 1) t = true → t.names.length = t.list.length → Row w 0 2 32 (BrC w 0 k) (t.names.zip t.list) v → Calls Try.prog 140 #[v] w (ValP (k + 1) t w)

theorem val_step (k : Nat) (hL : ValLC k) (hT : ValTC k) : ValC (k + 1) := by
  intro t T x w hf ho
  rcases hf with ⟨h0, h⟩ | ⟨h0, h⟩ | ⟨h0, h⟩ | ⟨h0, h⟩ | ⟨h0, vl, h, hrow⟩ | ⟨h0, hl, vl, h, hrow⟩ | ⟨h0, h⟩ | ⟨h0, h⟩
  all_goals
    simp only [Value.iface.injEq] at h
    obtain ⟨rfl, rfl⟩ := h
  · exact nullValue_fm k t w h0 ho
  · exact boolValue_fm k t w h0 ho
  · exact numValue_fm k t w h0 ho
  · exact textValue_fm k t w h0 ho
  · exact hL t _ w h0 ho hrow
  · exact hT t _ w h0 ho hl hrow
  · exact (fm_var h0 ho).elim
  · exact (fm_word h0 ho).elim

theorem fm_list_mem {k : Nat} {t : Vl} (h0 : t.kind = 4) (ho : fmB (k + 1) t = true) : t.num = 0 ∧ t.text = ByteArray.empty ∧ t.names = [] ∧ t.list.length ≤ 1000 ∧ ∀ (j : Nat) (h : j < t.list.length), fmB k t.list[j] = true := by
  obtain ⟨hp, _, _, _, _, hl, _, hk⟩ := fm_parts ho
  exact ⟨parts_no_num hp (by omega) (by omega), parts_no_text hp (by omega) (by omega) (by omega), List.eq_nil_of_length_eq_zero (parts_no_names hp (by omega)), hl, fun j h => hk _ (List.getElem_mem h)⟩
theorem fm_tree_mem {k : Nat} {t : Vl} (h0 : t.kind = 5) (ho : fmB (k + 1) t = true) : t.num = 0 ∧ t.text = ByteArray.empty ∧ t.list.length ≤ 1000 ∧ ∀ (j : Nat) (h : j < t.list.length), fmB k t.list[j] = true := by
  obtain ⟨hp, _, _, _, _, hl, _, hk⟩ := fm_parts ho
  exact ⟨parts_no_num hp (by omega) (by omega), parts_no_text hp (by omega) (by omega) (by omega), hl, fun j h => hk _ (List.getElem_mem h)⟩

theorem ok_list_mem {k : Nat} {t : Vl} (h0 : t.kind = 4) (ho : okB false (k + 1) t = true) : t.num = 0 ∧ t.text = ByteArray.empty ∧ t.names = [] ∧ t.list.length ≤ 12 ∧ ∀ (j : Nat) (h : j < t.list.length), okB false k t.list[j] = true := by
  rw [ok_k4 _ _ h0, Bool.and_eq_true] at ho
  obtain ⟨hp, hl⟩ := ho
  simp only [listB, Bool.and_eq_true, decide_eq_true_eq, List.all_eq_true] at hl
  exact ⟨parts_no_num hp (by omega) (by omega), parts_no_text hp (by omega) (by omega) (by omega), List.eq_nil_of_length_eq_zero (parts_no_names hp (by omega)), hl.1, fun j h => hl.2 _ (List.getElem_mem h)⟩
theorem ok_tree_mem {k : Nat} {t : Vl} (h0 : t.kind = 5) (ho : okB false (k + 1) t = true) : t.num = 0 ∧ t.text = ByteArray.empty ∧ t.list.length ≤ 12 ∧ ∀ (j : Nat) (h : j < t.list.length), okB false k t.list[j] = true := by
  rw [ok_k5 _ _ h0, Bool.and_eq_true] at ho
  obtain ⟨hp, hl⟩ := ho
  simp only [treeB, listB, Bool.and_eq_true, decide_eq_true_eq, List.all_eq_true] at hl
  exact ⟨parts_no_num hp (by omega) (by omega), parts_no_text hp (by omega) (by omega) (by omega), hl.1.1.1, fun j h => hl.1.1.2 _ (List.getElem_mem h)⟩

end Go.Proofs.Ytdaohfeajicamaa
