
/-
  DERIVED. PLAIN FACTS, no Go text: bytes, names. A byte is told by its number (an Int), a text by its list of bytes.
-/
import Derived.WalkKit
namespace Go.Proofs.Ytdaohfeajicamaa

def letterB (c : Int) : Bool := decide (97 ≤ c ∧ c ≤ 122 ∨ 65 ≤ c ∧ c ≤ 90 ∨ c = 95)
def figureB (c : Int) : Bool := decide (48 ≤ c ∧ c ≤ 57)
/-- A byte of a name behind its first. -/
def nameByteB (c : Int) : Bool := letterB c || figureB c
/-- The places from k on are bytes of a name. -/
def restB (l : List UInt8) : Bool := l.all fun u => nameByteB (u.toNat : Int)
/-- No figure first, all of them bytes of a name; and a name: 1 to 12 such. -/
def preB (l : List UInt8) : Bool := (match l with | [] => true | u :: _ => !figureB (u.toNat : Int)) && restB l
def nameB (l : List UInt8) : Bool := decide (1 ≤ l.length ∧ l.length ≤ 12) && preB l

theorem letter_not_figure (c : Int) (h : letterB c = true) : figureB c = false := by
  simp only [letterB, figureB, decide_eq_true_eq, decide_eq_false_iff_not] at *; omega

theorem len_toList (s : ByteArray) : s.data.toList.length = s.size := Array.length_toList

theorem take_not_empty (s : ByteArray) (k : Nat) (h0 : k ≠ 0) (h : k < s.size) : (s.data.toList.take k).isEmpty = false := by
  rw [Bool.eq_false_iff]
  intro h1
  have h2 := congrArg List.length (List.isEmpty_iff.1 h1)
  rw [List.length_take, len_toList, List.length_nil] at h2
  omega

theorem take_snoc (s : ByteArray) (k : Nat) (h : k < s.size) : s.data.toList.take (k + 1) = s.data.toList.take k ++ [s[k]] := by
  rw [List.take_succ_eq_append_getElem (by simpa using h)]; rfl

theorem restB_snoc (l : List UInt8) (u : UInt8) : restB (l ++ [u]) = (restB l && nameByteB (u.toNat : Int)) := by
  simp [restB, List.all_append]

theorem preB_snoc (l : List UInt8) (u : UInt8) : preB (l ++ [u]) = (preB l && (letterB (u.toNat : Int) || (!l.isEmpty && figureB (u.toNat : Int)))) := by
  have hl := letter_not_figure (u.toNat : Int)
  cases l with
  | nil =>
    simp only [preB, restB, List.nil_append, List.all_cons, List.all_nil, nameByteB, List.isEmpty_nil]
    cases h1 : letterB (u.toNat : Int) <;> cases h2 : figureB (u.toNat : Int) <;> simp_all
  | cons a t =>
    simp only [preB, List.cons_append, List.isEmpty_cons]
    rw [← List.cons_append, restB_snoc]
    simp [nameByteB, Bool.and_assoc]

theorem first_cons (s : ByteArray) (h : 0 < s.size) : ∃ t, s.data.toList = s[0] :: t := by
  have hl : 0 < s.data.toList.length := by rw [len_toList]; exact h
  have h0 : s.data.toList[0] = s[0] := rfl
  match hx : s.data.toList, hl with
  | a :: t, _ =>
    refine ⟨t, ?_⟩
    rw [← h0]
    simp [hx]

/-- A text that begins with no figure: just the rest counts. -/
theorem preB_of_first (s : ByteArray) (h : 0 < s.size) (hf : figureB (s[0].toNat : Int) = false) : preB s.data.toList = restB s.data.toList := by
  obtain ⟨t, ht⟩ := first_cons s h
  rw [ht]; simp [preB, hf]

theorem preB_first_figure (s : ByteArray) (h : 0 < s.size) (hf : figureB (s[0].toNat : Int) = true) : preB s.data.toList = false := by
  obtain ⟨t, ht⟩ := first_cons s h
  rw [ht]; simp [preB, hf]

theorem restB_take_false {l : List UInt8} {k : Nat} (h : restB (l.take k) = false) : restB l = false := by
  rw [Bool.eq_false_iff] at h ⊢
  intro hp
  apply h
  simp only [restB, List.all_eq_true] at hp ⊢
  exact fun x hx => hp x (List.mem_of_mem_take hx)

/-- A byte that is none ends it. -/
theorem preB_false {l : List UInt8} {k : Nat} (hk : k < l.length) (h : preB (l.take (k + 1)) = false) : preB l = false := by
  cases l with
  | nil => simp at hk
  | cons a t =>
    rw [Bool.eq_false_iff] at h ⊢
    intro hp
    apply h
    simp only [preB, Bool.and_eq_true, List.take_succ_cons, restB, List.all_eq_true] at hp ⊢
    refine ⟨hp.1, fun x hx => hp.2 x ?_⟩
    rcases List.mem_cons.1 hx with rfl | hx
    · exact List.mem_cons_self
    · exact List.mem_cons_of_mem _ (List.mem_of_mem_take hx)

end Go.Proofs.Ytdaohfeajicamaa
