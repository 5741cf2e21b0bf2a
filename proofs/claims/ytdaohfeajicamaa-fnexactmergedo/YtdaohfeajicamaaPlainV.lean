
/-
  DERIVED. PLAIN FACTS ON VALUES, no Go text: what a kind has; names once; what is ok.
-/
import Derived.Test.YtdaohfeajicamaaPlainA
import Derived.Test.YtdaohfeajicamaaRepV
namespace Go.Proofs.Ytdaohfeajicamaa
set_option linter.unusedVariables false
set_option linter.unusedSimpArgs false

/-- A value has nothing but what its kind has (n in its list, m names). -/
def plainB (kd nm : Int) (tx : ByteArray) (n m : Nat) : Bool :=
  if kd = 0 then nm == 0 && tx.toList.isEmpty && decide (n + m = 0)
  else if kd = 1 then decide (0 ≤ nm ∧ nm ≤ 1) && tx.toList.isEmpty && decide (n + m = 0)
  else if kd = 2 then decide (-2147483647 ≤ nm ∧ nm ≤ 2147483647) && tx.toList.isEmpty && decide (n + m = 0)
  else if kd = 3 then nm == 0 && decide (tx.size ≤ 40) && decide (n + m = 0)
  else if kd = 4 then nm == 0 && tx.toList.isEmpty && decide (m = 0) && decide (n ≤ 12)
  else if kd = 5 then nm == 0 && tx.toList.isEmpty && decide (m = n) && decide (n ≤ 12)
  else if kd = 6 ∨ kd = 7 then nm == 0 && nameB tx.data.toList && decide (n + m = 0)
  else false

/-- A text is one of others. -/
def hasB (l : List ByteArray) (s : ByteArray) : Bool := l.any fun x => x.toList == s.toList

/-- Texts are names, none of them there before. -/
def onceB : List ByteArray → List ByteArray → Bool
  | _, [] => true
  | acc, s :: r => nameB s.data.toList && !hasB acc s && onceB (acc ++ [s]) r

/-- A value is ok, down to some depth; with variables and words, or without. -/
def okB (words : Bool) : Nat → Vl → Bool
  | 0, _ => false
  | d + 1, t => plainB t.kind t.num t.text t.list.length t.names.length && (words || decide (t.kind ≤ 5)) && onceB [] t.names && t.list.all (okB words d)

theorem okB_succ (words : Bool) (d : Nat) (t : Vl) : okB words (d + 1) t = (plainB t.kind t.num t.text t.list.length t.names.length && (words || decide (t.kind ≤ 5)) && onceB [] t.names && t.list.all (okB words d)) := rfl

theorem onceB_drop {l : List ByteArray} {k : Nat} (h : k < l.length) : onceB (l.take k) (l.drop k) = (nameB l[k].data.toList && !hasB (l.take k) l[k] && onceB (l.take (k + 1)) (l.drop (k + 1))) := by
  rw [List.drop_eq_getElem_cons h, onceB, List.take_succ_eq_append_getElem h]

theorem onceB_start (l : List ByteArray) : onceB [] l = onceB (l.take 0) (l.drop 0) := by simp
theorem onceB_end (l : List ByteArray) : onceB (l.take l.length) (l.drop l.length) = true := by simp [onceB]

theorem hasB_snoc {l : List ByteArray} {m : Nat} (h : m < l.length) (s : ByteArray) : hasB (l.take (m + 1)) s = (hasB (l.take m) s || (l[m].toList == s.toList)) := by
  rw [List.take_succ_eq_append_getElem h]
  simp only [hasB, List.any_append, List.any_cons, List.any_nil, Bool.or_false]
theorem hasB_at {l : List ByteArray} {m j : Nat} (h : m < l.length) (hmj : m < j) {s : ByteArray} (he : (l[m].toList == s.toList) = true) : hasB (l.take j) s = true := by
  simp only [hasB, List.any_eq_true]
  exact ⟨l[m], List.mem_take_iff_getElem.2 ⟨m, by omega, rfl⟩, he⟩

theorem all_snoc {α : Type} {l : List α} {m : Nat} (h : m < l.length) (p : α → Bool) : (l.take (m + 1)).all p = ((l.take m).all p && p l[m]) := by
  rw [List.take_succ_eq_append_getElem h]
  simp only [List.all_append, List.all_cons, List.all_nil, Bool.and_true]
theorem all_take_false {α : Type} {l : List α} {m : Nat} {p : α → Bool} (h : (l.take m).all p = false) : l.all p = false := by
  rw [Bool.eq_false_iff] at h ⊢
  intro h2
  apply h
  rw [List.all_eq_true] at h2 ⊢
  exact fun x hx => h2 x (List.mem_of_mem_take hx)

end Go.Proofs.Ytdaohfeajicamaa
