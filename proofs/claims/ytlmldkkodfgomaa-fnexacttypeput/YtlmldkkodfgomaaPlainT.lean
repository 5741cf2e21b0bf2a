/-
  DERIVED. PLAIN FACTS ON TYPES AND THEIR TEXTS, no Go text: two ways to read one lead to the same.
-/
import Derived.Test.YtlmldkkodfgomaaPlainA
import Derived.Test.YtlmldkkodfgomaaRep
namespace Go.Proofs.Ytlmldkkodfgomaa
set_option linter.unusedVariables false
set_option linter.unusedSimpArgs false

/-- A type has a form, at most d deep. -/
def formedB : Nat → Ty → Bool
  | 0, _ => false
  | d + 1, t => match t.of with
    | [] => nameB t.name.data.toList
    | [x] => t.name.toList.isEmpty && formedB d x
    | _ => false

theorem formed_none {d : Nat} {t : Ty} (h : t.of = []) : formedB (d + 1) t = nameB t.name.data.toList := by simp [formedB, h]
theorem formed_one {d : Nat} {t x : Ty} (h : t.of = [x]) : formedB (d + 1) t = (t.name.toList.isEmpty && formedB d x) := by simp [formedB, h]
theorem formed_more {d : Nat} {t : Ty} (h : 1 < t.of.length) : formedB (d + 1) t = false := by
  match ht : t.of, h with
  | _ :: _ :: _, _ => simp [formedB, ht]

def B (l : List UInt8) : ByteArray := ⟨l.toArray⟩
theorem B_data (s : ByteArray) : B s.data.toList = s := rfl
theorem data_B (l : List UInt8) : (B l).data.toList = l := by simp [B]
theorem B_of_data {s : ByteArray} {l : List UInt8} (h : s.data.toList = l) : s = B l := by rw [← h]; rfl
theorem empty_of {s : ByteArray} (h : s.toList.isEmpty = true) : s = ByteArray.empty := by
  rw [ByteArray.toList_eq, List.isEmpty_iff] at h
  exact B_of_data h

/-- A byte of a name, told by itself. -/
def nb (u : UInt8) : Bool := nameByteB (u.toNat : Int)

theorem nb_33 : nb 33 = false := by decide
theorem nb_91 : nb 91 = false := by decide
theorem nb_93 : nb 93 = false := by decide

theorem nameB_all {l : List UInt8} (h : nameB l = true) : ∀ u ∈ l, nb u = true := by
  simp only [nameB, preB, restB, Bool.and_eq_true, List.all_eq_true] at h
  exact h.2.2
theorem nameB_ne {l : List UInt8} (h : nameB l = true) : l ≠ [] := by
  rintro rfl
  simp [nameB] at h

def mustL (b : Bool) (l : List UInt8) : List UInt8 := if b then l ++ [33] else l
/-- The text of a type, at most d deep. -/
def textL : Nat → Ty → List UInt8
  | 0, _ => []
  | d + 1, t => mustL t.must (match t.of with
    | [] => t.name.data.toList
    | x :: _ => 91 :: textL d x ++ [93])

theorem textL_none {d : Nat} {t : Ty} (h : t.of = []) : textL (d + 1) t = mustL t.must t.name.data.toList := by simp [textL, h]
theorem textL_one {d : Nat} {t x : Ty} (h : t.of = [x]) : textL (d + 1) t = mustL t.must (91 :: textL d x ++ [93]) := by simp [textL, h]

/-! ### The model's way: from the left -/
def wordL (l : List UInt8) : List UInt8 := l.takeWhile nb
def restL (l : List UInt8) : List UInt8 := l.dropWhile nb
def bangL (t : Ty) (l : List UInt8) : Ty × List UInt8 := if l.head? = some 33 then ({ t with must := true }, l.tail) else (t, l)
def getL : Nat → List UInt8 → Option (Ty × List UInt8)
  | 0, _ => none
  | d + 1, l => if l.head? = some 91 ∧ 1 ≤ d then
      match getL d l.tail with
      | some (t, r) => if r.head? = some 93 then some (bangL ⟨ByteArray.empty, [t], false⟩ r.tail) else none
      | none => none
    else some (bangL ⟨B (wordL l), [], false⟩ (restL l))

theorem head_cons {l : List UInt8} {c : UInt8} (h : l.head? = some c) : l = c :: l.tail := by
  cases l with
  | nil => simp at h
  | cons a t => simp at h; simp [h]

theorem bangL_sound {t0 t : Ty} {l r : List UInt8} (h0 : t0.must = false) (h : bangL t0 l = (t, r)) : t.name = t0.name ∧ t.of = t0.of ∧ l = (if t.must then [33] else []) ++ r := by
  unfold bangL at h
  split at h
  · rename_i hh
    simp only [Prod.mk.injEq] at h
    obtain ⟨rfl, rfl⟩ := h
    exact ⟨rfl, rfl, by simpa using head_cons hh⟩
  · simp only [Prod.mk.injEq] at h
    obtain ⟨rfl, rfl⟩ := h
    exact ⟨rfl, rfl, by simp [h0]⟩

theorem mustL_eq (b : Bool) (l r : List UInt8) : mustL b l ++ r = l ++ ((if b then [33] else []) ++ r) := by cases b <;> simp [mustL]

theorem getL_sound : ∀ (d : Nat) (l r : List UInt8) (t : Ty), getL d l = some (t, r) → formedB d t = true → l = textL d t ++ r
  | 0, _, _, _, h, _ => by simp [getL] at h
  | d + 1, l, r, t, h, hf => by
    unfold getL at h
    split at h
    · rename_i hc
      match hg : getL d l.tail with
      | none => rw [hg] at h; simp at h
      | some (t', r') =>
        rw [hg] at h
        simp only at h
        split at h
        · rename_i hr
          simp only [Option.some.injEq] at h
          obtain ⟨h1, h2, h3⟩ := bangL_sound rfl h
          have hof : t.of = [t'] := h2
          rw [formed_one hof, Bool.and_eq_true] at hf
          have ih := getL_sound d _ _ _ hg hf.2
          rw [textL_one hof, mustL_eq, ← h3]
          rw [head_cons hc.1, ih, head_cons hr]
          simp
        · simp at h
    · simp only [Option.some.injEq] at h
      obtain ⟨h1, h2, h3⟩ := bangL_sound rfl h
      have hof : t.of = [] := h2
      rw [textL_none hof, mustL_eq, ← h3, h1]
      simp only [data_B, wordL, restL]
      exact (List.takeWhile_append_dropWhile).symm

theorem bangL_rest (t : Ty) (l : List UInt8) : (bangL t l).2.length ≤ l.length := by
  unfold bangL
  split
  · simp
  · exact Nat.le_refl _
theorem getL_rest : ∀ (d : Nat) (l r : List UInt8) (t : Ty), getL d l = some (t, r) → r.length ≤ l.length
  | 0, _, _, _, h => by simp [getL] at h
  | d + 1, l, r, t, h => by
    unfold getL at h
    split at h
    · match hg : getL d l.tail with
      | none => rw [hg] at h; simp at h
      | some (t', r') =>
        rw [hg] at h
        simp only at h
        split at h
        · simp only [Option.some.injEq] at h
          have h1 := getL_rest d _ _ _ hg
          have h2 := bangL_rest ⟨ByteArray.empty, [t'], false⟩ r'.tail
          rw [h] at h2
          simp at h1 h2
          omega
        · simp at h
    · simp only [Option.some.injEq] at h
      have h2 := bangL_rest ⟨B (wordL l), [], false⟩ (restL l)
      rw [h] at h2
      have h3 : (restL l).length ≤ l.length := (List.dropWhile_sublist _).length_le
      simp at h2
      omega

/-- What follows stops a name, and is no bang. -/
def Stops (r : List UInt8) : Prop := ∀ c, r.head? = some c → nb c = false ∧ c ≠ 33

theorem take_name {n r : List UInt8} (h : ∀ u ∈ n, nb u = true) (hr : ∀ c, r.head? = some c → nb c = false) : wordL (n ++ r) = n ∧ restL (n ++ r) = r := by
  constructor
  · unfold wordL
    rw [List.takeWhile_append_of_pos h]
    cases r with
    | nil => simp
    | cons a t => simp [hr a rfl]
  · unfold restL
    rw [List.dropWhile_append_of_pos h]
    cases r with
    | nil => simp
    | cons a t => simp [hr a rfl]

theorem bangL_complete {t : Ty} {r : List UInt8} (hr : Stops r) : bangL { t with must := false } ((if t.must then [33] else []) ++ r) = (t, r) := by
  unfold bangL
  cases hm : t.must
  · have : ¬ (r.head? = some 33) := fun h => (hr 33 h).2 rfl
    simp only [Bool.false_eq_true, if_false, List.nil_append, if_neg this, Prod.mk.injEq, and_true]
    cases t; simp_all
  · simp only [if_true, List.cons_append, List.nil_append, List.head?_cons, List.tail_cons, Prod.mk.injEq, and_true]
    cases t; simp_all

theorem getL_complete : ∀ (d : Nat) (t : Ty) (r : List UInt8), formedB d t = true → Stops r → getL d (textL d t ++ r) = some (t, r)
  | 0, _, _, h, _ => by simp [formedB] at h
  | d + 1, t, r, hf, hr => by
    match hof : t.of with
    | [] =>
      rw [formed_none hof] at hf
      rw [textL_none hof, mustL_eq]
      have hstop : ∀ c, ((if t.must then [33] else []) ++ r).head? = some c → nb c = false := by
        intro c hc
        cases hm : t.must
        · rw [hm] at hc; exact (hr c (by simpa using hc)).1
        · rw [hm] at hc; simp at hc; subst hc; exact nb_33
      obtain ⟨h1, h2⟩ := take_name (nameB_all hf) hstop
      have hn91 : ¬ ((t.name.data.toList ++ ((if t.must then [33] else []) ++ r)).head? = some 91 ∧ 1 ≤ d) := by
        rintro ⟨h, _⟩
        have hne := nameB_ne hf
        match hx : t.name.data.toList, hne with
        | a :: s, _ =>
          rw [hx] at h
          simp at h
          have := nameB_all hf 91 (by rw [hx]; simp [h])
          rw [nb_91] at this; simp at this
      unfold getL
      rw [if_neg hn91, h1, h2, B_data]
      have hb := bangL_complete (t := t) hr
      rw [← hb]
      congr 2
      cases t; simp_all
    | [x] =>
      rw [formed_one hof, Bool.and_eq_true] at hf
      rw [textL_one hof, mustL_eq]
      have hd : 1 ≤ d := by
        cases d with
        | zero => simp [formedB] at hf
        | succ d => omega
      have ih := getL_complete d x (93 :: ((if t.must then [33] else []) ++ r)) hf.2 (by
        intro c hc; simp at hc; subst hc; exact ⟨nb_93, by decide⟩)
      have hl : (91 :: textL d x ++ [93]) ++ ((if t.must then [33] else []) ++ r) = 91 :: (textL d x ++ (93 :: ((if t.must then [33] else []) ++ r))) := by simp
      rw [hl]
      unfold getL
      rw [if_pos ⟨by simp, hd⟩]
      simp only [List.tail_cons, ih, List.head?_cons, if_true]
      have hb := bangL_complete (t := t) hr
      rw [← hb]
      congr 2
      have := empty_of hf.1
      cases t; simp_all
    | _ :: _ :: _ => rw [formed_more (by rw [hof]; simp)] at hf; simp at hf

def specT (l : List UInt8) : Option Ty :=
  match getL 3 l with
  | some (t, []) => if formedB 3 t then some t else none
  | _ => none

theorem specT_iff (l : List UInt8) (t : Ty) : specT l = some t ↔ formedB 3 t = true ∧ l = textL 3 t := by
  constructor
  · intro h
    unfold specT at h
    split at h
    · rename_i t' hg
      split at h
      · rename_i hf
        simp only [Option.some.injEq] at h
        subst h
        have := getL_sound 3 _ _ _ hg hf
        exact ⟨hf, by simpa using this⟩
      · simp at h
    · simp at h
  · rintro ⟨hf, rfl⟩
    have := getL_complete 3 t [] hf (fun c h => by simp at h)
    rw [List.append_nil] at this
    unfold specT
    rw [this]
    simp [hf]

/-! ### The program's way: from both ends -/
def cutEnd (l : List UInt8) (c : UInt8) : List UInt8 × Bool := if l.getLast? = some c then (l.dropLast, true) else (l, false)
def cutHead (l : List UInt8) (c : UInt8) : List UInt8 × Bool := if l.head? = some c then (l.tail, true) else (l, false)
def readL : Nat → List UInt8 → Option Ty
  | 0, _ => none
  | d + 1, l =>
    if nameB (cutEnd l 33).1 then some ⟨B (cutEnd l 33).1, [], (cutEnd l 33).2⟩
    else if (cutHead (cutEnd l 33).1 91).2 && (cutEnd (cutHead (cutEnd l 33).1 91).1 93).2 then
      (readL d (cutEnd (cutHead (cutEnd l 33).1 91).1 93).1).map fun t => ⟨ByteArray.empty, [t], (cutEnd l 33).2⟩
    else none

theorem cutEnd_snoc (l : List UInt8) (c : UInt8) : cutEnd (l ++ [c]) c = (l, true) := by simp [cutEnd]
theorem cutEnd_true {l : List UInt8} {c : UInt8} (h : (cutEnd l c).2 = true) : l = (cutEnd l c).1 ++ [c] := by
  unfold cutEnd at h ⊢
  split at h
  · rename_i hh
    rw [if_pos hh]
    obtain ⟨ys, rfl⟩ := List.getLast?_eq_some_iff.1 hh
    simp
  · simp at h
theorem cutEnd_false {l : List UInt8} {c : UInt8} (h : (cutEnd l c).2 = false) : (cutEnd l c).1 = l := by
  unfold cutEnd at h ⊢
  split at h
  · simp at h
  · rename_i hh; rw [if_neg hh]
theorem cutHead_true {l : List UInt8} {c : UInt8} (h : (cutHead l c).2 = true) : l = c :: (cutHead l c).1 := by
  unfold cutHead at h ⊢
  split at h
  · rename_i hh
    rw [if_pos hh]
    exact head_cons hh
  · simp at h

theorem cutEnd_must (l : List UInt8) (h : l.getLast? ≠ some 33) (b : Bool) : cutEnd (mustL b l) 33 = (l, b) := by
  cases b
  · simp [mustL, cutEnd, h]
  · simp [mustL, cutEnd]
theorem mustL_cut (l : List UInt8) : mustL (cutEnd l 33).2 (cutEnd l 33).1 = l := by
  cases h : (cutEnd l 33).2
  · simp [mustL, cutEnd_false h]
  · simp only [mustL, if_true]; exact (cutEnd_true h).symm

theorem readL_sound : ∀ (d : Nat) (l : List UInt8) (t : Ty), readL d l = some t → formedB d t = true ∧ l = textL d t
  | 0, _, _, h => by simp [readL] at h
  | d + 1, l, t, h => by
    unfold readL at h
    split at h
    · rename_i hn
      simp only [Option.some.injEq] at h
      subst h
      refine ⟨?_, ?_⟩
      · rw [formed_none rfl, data_B]; exact hn
      · rw [textL_none rfl, data_B, mustL_cut]
    · split at h
      · rename_i hc
        simp only [Bool.and_eq_true] at hc
        obtain ⟨x, hx, rfl⟩ := Option.map_eq_some_iff.1 h
        obtain ⟨h1, h2⟩ := readL_sound d _ _ hx
        refine ⟨?_, ?_⟩
        · rw [formed_one rfl, h1]; simp [ByteArray.toList_eq]
        · rw [textL_one rfl, ← h2]
          have e1 := cutHead_true hc.1
          have e2 := cutEnd_true hc.2
          have e3 : (91 : UInt8) :: (cutEnd (cutHead (cutEnd l 33).1 91).1 93).1 ++ [93] = (cutEnd l 33).1 := by
            rw [List.cons_append, ← e2, ← e1]
          rw [e3, mustL_cut]
      · simp at h

theorem readL_complete : ∀ (d : Nat) (t : Ty), formedB d t = true → readL d (textL d t) = some t
  | 0, _, h => by simp [formedB] at h
  | d + 1, t, hf => by
    match hof : t.of with
    | [] =>
      rw [formed_none hof] at hf
      have hlast : t.name.data.toList.getLast? ≠ some 33 := by
        intro h
        have := nameB_all hf 33 (List.mem_of_getLast? h)
        rw [nb_33] at this; simp at this
      rw [textL_none hof]
      unfold readL
      rw [cutEnd_must _ hlast, if_pos hf]
      simp only [B_data]
      cases t; simp_all
    | [x] =>
      rw [formed_one hof, Bool.and_eq_true] at hf
      have hlast : (91 :: textL d x ++ [93]).getLast? ≠ some 33 := by
        show ((91 :: textL d x) ++ [93]).getLast? ≠ some 33
        rw [List.getLast?_concat]; decide
      have hnn : nameB (91 :: textL d x ++ [93]) = false := by
        rw [Bool.eq_false_iff]
        intro h
        have := nameB_all h 91 (by simp)
        rw [nb_91] at this; simp at this
      rw [textL_one hof]
      unfold readL
      rw [cutEnd_must _ hlast]
      simp only [hnn, Bool.false_eq_true, if_false]
      have e1 : cutHead (91 :: textL d x ++ [93]) 91 = (textL d x ++ [93], true) := by simp [cutHead]
      rw [e1]
      simp only [cutEnd_snoc, Bool.and_self, if_true, readL_complete d x hf.2, Option.map_some]
      have := empty_of hf.1
      cases t; simp_all
    | _ :: _ :: _ => rw [formed_more (by rw [hof]; simp)] at hf; simp at hf

/-- BOTH WAYS LEAD TO THE SAME. -/
theorem specT_eq (l : List UInt8) : specT l = readL 3 l := by
  match h : readL 3 l with
  | some t =>
    obtain ⟨h1, h2⟩ := readL_sound 3 _ _ h
    exact (specT_iff l t).2 ⟨h1, h2⟩
  | none =>
    match h' : specT l with
    | none => rfl
    | some t =>
      obtain ⟨h1, h2⟩ := (specT_iff l t).1 h'
      rw [h2, readL_complete 3 t h1] at h
      simp at h

end Go.Proofs.Ytlmldkkodfgomaa
