
/-
  DERIVED. HOW A PATH IS READ, as bytes: no walk.
-/
import Derived.Test.YtedeeckbgjalcaaDoorPtP
import Derived.Lib.Split
namespace Go.Proofs.YtedeeckbgjalcaaDoor
open Go.Lib
set_option linter.unusedVariables false
set_option linter.unusedSimpArgs false

/-- A text cut at each byte c. -/
def spl (c : UInt8) : List UInt8 → List (List UInt8)
  | [] => [[]]
  | x :: s => if x == c then [] :: spl c s else match spl c s with
    | h :: t => (x :: h) :: t
    | [] => [[x]]
theorem spl_ne (c : UInt8) (s : List UInt8) : ∃ h t, spl c s = h :: t := by
  cases s with
  | nil => exact ⟨_, _, rfl⟩
  | cons x s =>
    simp only [spl]
    split
    · exact ⟨_, _, rfl⟩
    · split
      · exact ⟨_, _, rfl⟩
      · exact ⟨_, _, rfl⟩
theorem spl_eq (c : UInt8) (s : List UInt8) : spl c (c :: s) = [] :: spl c s := by simp [spl]
theorem spl_cons {c x : UInt8} (h : x ≠ c) {s hd : List UInt8} {tl : List (List UInt8)} (hs : spl c s = hd :: tl) : spl c (x :: s) = (x :: hd) :: tl := by simp [spl, h, hs]
theorem splitK_one (c : UInt8) : ∀ (s : List UInt8) (k : Nat), count s [c] ≤ k → splitK [c] 0 k s = spl c s
  | [], k, _ => by
    cases k with
    | zero => simp [splitK, spl]
    | succ k => simp [splitK, spl, index_one_nil]
  | x :: s, k, h => by
    by_cases hx : x = c
    · subst hx
      rw [count_cons_eq] at h
      obtain ⟨k', rfl⟩ : ∃ k', k = k' + 1 := ⟨k - 1, by omega⟩
      have ih := splitK_one x s k' (by omega)
      simp [splitK, index_one_eq, spl_eq, ih]
    · rw [count_cons_ne x c s hx] at h
      have ih := splitK_one c s k h
      obtain ⟨hd, tl, hs⟩ := spl_ne c s
      rw [spl_cons hx hs]
      rw [hs] at ih
      cases k with
      | zero =>
        simp only [splitK, List.cons.injEq] at ih
        obtain ⟨rfl, rfl⟩ := ih
        rfl
      | succ k =>
        by_cases hm : index s [c] = -1
        · have h1 : index (x :: s) [c] = -1 := by rw [index_one_ne hx, hm]; rfl
          simp only [splitK, h1, hm] at ih ⊢
          simp at ih ⊢
          exact ih
        · have hg := index_ge s [c]
          obtain ⟨i, hi⟩ : ∃ i : Nat, index s [c] = i := ⟨(index s [c]).toNat, by omega⟩
          have hn1 : ((i : Int) == -1) = false := by rw [beq_eq_false_iff_ne]; omega
          have hn2 : (((i + 1 : Nat) : Int) == -1) = false := by rw [beq_eq_false_iff_ne]; omega
          have h1 : index (x :: s) [c] = ((i + 1 : Nat) : Int) := by
            rw [index_one_ne hx, hi, hn1]
            simp
          simp only [splitK, h1, hi, hn1, hn2, Int.toNat_natCast, Bool.false_eq_true, if_false, List.length_cons, List.length_nil, Nat.add_zero, Nat.zero_add, List.take_succ_cons, List.drop_succ_cons, List.cons.injEq] at ih ⊢
          exact ⟨⟨trivial, ih.1⟩, ih.2⟩
theorem split_one (c : UInt8) (s : List UInt8) : split s [c] = spl c s := splitK_one c s _ (Nat.le_refl _)

/-- A name of a path, as it is; none, if it is not written so. -/
def unE : List UInt8 → Option (List UInt8)
  | [] => some []
  | [x] => if x == 126 then none else some [x]
  | x :: y :: r => if x == 126 then (if y == 48 then (unE r).map (126 :: ·) else if y == 49 then (unE r).map (47 :: ·) else none) else (unE (y :: r)).map (x :: ·)
/-- The same, a stroke that is none being taken as it is. -/
def leE : List UInt8 → List UInt8
  | [] => []
  | [x] => [x]
  | x :: y :: r => if x == 126 then (if y == 48 then 126 :: leE r else if y == 49 then 47 :: leE r else 126 :: leE (y :: r)) else x :: leE (y :: r)
theorem leE_of_unE : ∀ (s t : List UInt8), unE s = some t → leE s = t ∧ (47 ∉ s → escL t = s)
  | [], t, h => by simp [unE] at h; subst h; simp [leE, escL]
  | [x], t, h => by
    simp only [unE] at h
    split at h
    · exact absurd h (by simp)
    · rename_i hx
      simp only [Option.some.injEq] at h
      subst h
      refine ⟨rfl, fun h47 => ?_⟩
      have hx' : x ≠ 126 := by simpa using hx
      have h47' : x ≠ 47 := fun e => h47 (by simp [e])
      simp [escL, escC, hx', h47']
  | x :: y :: r, t, h => by
    simp only [unE] at h
    simp only [leE]
    by_cases hx : x = 126
    · subst hx
      simp only [beq_self_eq_true, if_true] at h ⊢
      by_cases hy : y = 48
      · subst hy
        simp only [beq_self_eq_true, if_true, Option.map_eq_some_iff] at h ⊢
        obtain ⟨u, hu, rfl⟩ := h
        obtain ⟨h1, h2⟩ := leE_of_unE r u hu
        refine ⟨by rw [h1], fun h47 => ?_⟩
        have := h2 (fun e => h47 (by simp [e]))
        simp only [escL, List.flatMap_cons] at this ⊢
        rw [this]; rfl
      · have hy0 : (y == 48) = false := by simpa using hy
        simp only [hy0, Bool.false_eq_true, if_false] at h ⊢
        by_cases hy1 : y = 49
        · subst hy1
          simp only [beq_self_eq_true, if_true, Option.map_eq_some_iff] at h ⊢
          obtain ⟨u, hu, rfl⟩ := h
          obtain ⟨h1, h2⟩ := leE_of_unE r u hu
          refine ⟨by rw [h1], fun h47 => ?_⟩
          have := h2 (fun e => h47 (by simp [e]))
          simp only [escL, List.flatMap_cons] at this ⊢
          rw [this]; rfl
        · have hy1' : (y == 49) = false := by simpa using hy1
          simp only [hy1', Bool.false_eq_true, if_false] at h
          exact absurd h (by simp)
    · have hx' : (x == 126) = false := by simpa using hx
      simp only [hx', Bool.false_eq_true, if_false, Option.map_eq_some_iff] at h ⊢
      obtain ⟨u, hu, rfl⟩ := h
      obtain ⟨h1, h2⟩ := leE_of_unE (y :: r) u hu
      refine ⟨by rw [h1], fun h47 => ?_⟩
      have h3 := h2 (fun e => h47 (List.mem_cons_of_mem _ e))
      have h47' : x ≠ 47 := fun e => h47 (by simp [e])
      simp only [escL, List.flatMap_cons] at h3 ⊢
      rw [h3]
      simp [escC, hx, h47']
/-- What is written again as it was is written so. -/
theorem unE_of_leE : ∀ (s : List UInt8), 47 ∉ s → escL (leE s) = s → unE s = some (leE s)
  | [], _, _ => rfl
  | [x], h47, h => by
    by_cases hx : x = 126
    · subst hx; simp [leE, escL, escC] at h
    · simp [unE, leE, hx]
  | x :: y :: r, h47, h => by
    simp only [leE] at h
    simp only [unE, leE]
    by_cases hx : x = 126
    · subst hx
      simp only [beq_self_eq_true, if_true] at h ⊢
      by_cases hy : y = 48
      · subst hy
        simp only [beq_self_eq_true, if_true] at h ⊢
        have h1 : escL (leE r) = r := by simpa [escL, escC] using h
        rw [unE_of_leE r (fun e => h47 (by simp [e])) h1]
        rfl
      · have hy0 : (y == 48) = false := by simpa using hy
        simp only [hy0, Bool.false_eq_true, if_false] at h ⊢
        by_cases hy1 : y = 49
        · subst hy1
          simp only [beq_self_eq_true, if_true] at h ⊢
          have h1 : escL (leE r) = r := by simpa [escL, escC] using h
          rw [unE_of_leE r (fun e => h47 (by simp [e])) h1]
          rfl
        · have hy1' : (y == 49) = false := by simpa using hy1
          simp only [hy1', Bool.false_eq_true, if_false] at h
          have h2 : 126 :: 48 :: escL (leE (y :: r)) = 126 :: y :: r := h
          simp only [List.cons.injEq, true_and] at h2
          exact absurd h2.1.symm hy
    · have hx' : (x == 126) = false := by simpa using hx
      have h47' : x ≠ 47 := fun e => h47 (by simp [e])
      simp only [hx', Bool.false_eq_true, if_false] at h ⊢
      have h1 : escL (leE (y :: r)) = y :: r := by
        have h2 : escC x ++ escL (leE (y :: r)) = x :: y :: r := h
        have h3 : escC x = [x] := by simp [escC, hx, h47']
        rw [h3] at h2
        simpa using h2
      rw [unE_of_leE (y :: r) (fun e => h47 (List.mem_cons_of_mem _ e)) h1]
      rfl
theorem unE_esc : ∀ t : List UInt8, unE (escL t) = some t
  | [] => rfl
  | x :: t => by
    have ih := unE_esc t
    by_cases h1 : x = 126
    · subst h1
      show unE (126 :: 48 :: escL t) = _
      simp [unE, ih]
    · by_cases h2 : x = 47
      · subst h2
        show unE (126 :: 49 :: escL t) = _
        simp [unE, ih]
      · have h3 : escL (x :: t) = x :: escL t := by simp [escL, escC, h1, h2]
        rw [h3]
        cases he : escL t with
        | nil => rw [he] at ih; simp [unE] at ih; subst ih; simp [unE, h1]
        | cons y r => rw [he] at ih; simp [unE, h1, ih]

/-- What stands behind the first stroke, piece by piece. -/
def unP : List (List UInt8) → Option (List UInt8)
  | [] => some []
  | (x :: p) :: t => if x == 48 then (unP t).map fun r => 126 :: (p ++ r) else if x == 49 then (unP t).map fun r => 47 :: (p ++ r) else none
  | [] :: _ => none
theorem unE_spl : ∀ (s h : List UInt8) (t : List (List UInt8)), spl 126 s = h :: t → unE s = (unP t).map (h ++ ·)
  | [], h, t, e => by simp [spl] at e; obtain ⟨rfl, rfl⟩ := e; rfl
  | [x], h, t, e => by
    by_cases hx : x = 126
    · subst hx
      simp [spl] at e; obtain ⟨rfl, rfl⟩ := e
      simp [unE, unP]
    · simp [spl, hx] at e; obtain ⟨rfl, rfl⟩ := e
      simp [unE, unP, hx]
  | x :: y :: r, h, t, e => by
    by_cases hx : x = 126
    · subst hx
      rw [spl_eq] at e
      simp only [List.cons.injEq] at e
      obtain ⟨rfl, rfl⟩ := e
      simp only [unE, beq_self_eq_true, if_true, List.nil_append, Option.map_id']
      by_cases hy : y = 126
      · subst hy
        rw [spl_eq]
        simp [unP]
      · obtain ⟨hd, tl, hs⟩ := spl_ne 126 r
        rw [spl_cons hy hs]
        have ih := unE_spl r hd tl hs
        by_cases h0 : y = 48
        · subst h0
          simp [unP, ih, Option.map_map, Function.comp_def]
        · by_cases h1 : y = 49
          · subst h1
            simp [unP, ih, Option.map_map, Function.comp_def]
          · simp [unP, h0, h1]
    · obtain ⟨hd, tl, hs⟩ := spl_ne 126 (y :: r)
      rw [spl_cons hx hs] at e
      simp only [List.cons.injEq] at e
      obtain ⟨rfl, rfl⟩ := e
      have ih := unE_spl (y :: r) hd tl hs
      simp [unE, hx, ih, Option.map_map, Function.comp_def]

/-! ### The whole path -/
theorem spl_no (c : UInt8) : ∀ s : List UInt8, ∀ n ∈ spl c s, c ∉ n
  | [], n, h => by simp [spl] at h; subst h; simp
  | x :: s, n, h => by
    have ih := spl_no c s
    by_cases hx : x = c
    · subst hx
      rw [spl_eq] at h
      rcases List.mem_cons.1 h with rfl | h
      · simp
      · exact ih n h
    · obtain ⟨hd, tl, hs⟩ := spl_ne c s
      rw [spl_cons hx hs] at h
      rw [hs] at ih
      rcases List.mem_cons.1 h with rfl | h
      · intro hm
        rcases List.mem_cons.1 hm with e | hm
        · exact hx e.symm
        · exact ih hd List.mem_cons_self hm
      · exact ih n (List.mem_cons_of_mem _ h)
def joinS (c : UInt8) : List (List UInt8) → List UInt8
  | [] => []
  | n :: r => c :: n ++ joinS c r
theorem join_spl (c : UInt8) : ∀ s : List UInt8, joinS c (spl c s) = c :: s
  | [] => rfl
  | x :: s => by
    have ih := join_spl c s
    by_cases hx : x = c
    · subst hx
      rw [spl_eq]
      simp [joinS, ih]
    · obtain ⟨hd, tl, hs⟩ := spl_ne c s
      rw [spl_cons hx hs]
      rw [hs] at ih
      simp [joinS] at ih ⊢
      exact ih
def ptLL : List (List UInt8) → List UInt8
  | [] => []
  | n :: r => 47 :: escL n ++ ptLL r
theorem ptL_eq : ∀ l : List ByteArray, ptL l = ptLL (l.map fun s => s.data.toList)
  | [] => rfl
  | s :: r => by simp [ptL, ptLL, ptL_eq r]
def allE : List (List UInt8) → Option (List (List UInt8))
  | [] => some []
  | n :: r => match unE n, allE r with
    | some a, some b => some (a :: b)
    | _, _ => none
/-- What a path's text tells; none, if it is none. -/
def pgO : List UInt8 → Option (List (List UInt8))
  | [] => some []
  | x :: r => if x == 47 then allE (spl 47 r) else none
theorem esc_no47 : ∀ t : List UInt8, 47 ∉ escL t
  | [] => by simp [escL]
  | x :: t => by
    have ih := esc_no47 t
    have h : escL (x :: t) = escC x ++ escL t := rfl
    rw [h, List.mem_append]
    intro hm
    rcases hm with hm | hm
    · unfold escC at hm
      split at hm
      · simp at hm
      · split at hm
        · simp at hm
        · rename_i h2; simp at hm; exact h2 (by simp [hm])
    · exact ih hm
theorem head47 : ∀ ns : List (List UInt8), joinS 47 ns = [] ∨ ∃ A, joinS 47 ns = 47 :: A
  | [] => Or.inl rfl
  | n :: r => Or.inr ⟨_, rfl⟩
theorem head47L : ∀ ns : List (List UInt8), ptLL ns = [] ∨ ∃ A, ptLL ns = 47 :: A
  | [] => Or.inl rfl
  | n :: r => Or.inr ⟨_, rfl⟩
theorem cut_eq : ∀ (a b A B : List UInt8), 47 ∉ a → 47 ∉ b → (A = [] ∨ ∃ A', A = 47 :: A') → (B = [] ∨ ∃ B', B = 47 :: B') → a ++ A = b ++ B → a = b ∧ A = B
  | [], [], A, B, _, _, _, _, e => ⟨rfl, by simpa using e⟩
  | [], y :: b, A, B, _, hb, hA, _, e => by
    exfalso
    rcases hA with rfl | ⟨A', rfl⟩
    · simp at e
    · simp at e; exact hb (by simp [e.1])
  | x :: a, [], A, B, ha, _, _, hB, e => by
    exfalso
    rcases hB with rfl | ⟨B', rfl⟩
    · simp at e
    · simp at e; exact ha (by simp [e.1])
  | x :: a, y :: b, A, B, ha, hb, hA, hB, e => by
    simp only [List.cons_append, List.cons.injEq] at e
    obtain ⟨h1, h2⟩ := cut_eq a b A B (fun h => ha (List.mem_cons_of_mem _ h)) (fun h => hb (List.mem_cons_of_mem _ h)) hA hB e.2
    exact ⟨by rw [e.1, h1], h2⟩
theorem all_yes : ∀ (ns ts : List (List UInt8)), (∀ n ∈ ns, 47 ∉ n) → allE ns = some ts → ts = ns.map leE ∧ ptLL ts = joinS 47 ns
  | [], ts, _, h => by simp [allE] at h; subst h; exact ⟨rfl, rfl⟩
  | n :: r, ts, h47, h => by
    simp only [allE] at h
    cases hn : unE n with
    | none => rw [hn] at h; simp at h
    | some a =>
      cases hr : allE r with
      | none => rw [hn, hr] at h; simp at h
      | some b =>
        rw [hn, hr] at h
        simp only [Option.some.injEq] at h
        subst h
        obtain ⟨h1, h2⟩ := leE_of_unE n a hn
        obtain ⟨h3, h4⟩ := all_yes r b (fun m hm => h47 m (List.mem_cons_of_mem _ hm)) hr
        refine ⟨by rw [h3]; simp [h1], ?_⟩
        simp only [ptLL, joinS]
        rw [h2 (h47 n List.mem_cons_self), h4]
theorem all_back : ∀ (ns : List (List UInt8)), (∀ n ∈ ns, 47 ∉ n) → ptLL (ns.map leE) = joinS 47 ns → allE ns = some (ns.map leE)
  | [], _, _ => rfl
  | n :: r, h47, h => by
    simp only [List.map_cons, ptLL, joinS, List.cons_append, List.cons.injEq, true_and] at h
    obtain ⟨h1, h2⟩ := cut_eq _ _ _ _ (esc_no47 _) (h47 n List.mem_cons_self) (head47L _) (head47 _) h
    have h3 := unE_of_leE n (h47 n List.mem_cons_self) h1
    have h4 := all_back r (fun m hm => h47 m (List.mem_cons_of_mem _ hm)) h2
    simp only [allE, h3, h4, List.map_cons]
/-- Read again what was written. -/
theorem pgO_ptLL : ∀ l : List (List UInt8), pgO (ptLL l) = some l := fun l => by
  have spl_esc : ∀ (t : List UInt8) (A : List UInt8), 47 ∉ t → (A = [] ∨ ∃ A', A = 47 :: A') → spl 47 (t ++ A) = t :: (match A with | [] => [] | _ :: A' => spl 47 A') := by
    intro t
    induction t with
    | nil =>
      intro A _ hA
      rcases hA with rfl | ⟨A', rfl⟩
      · rfl
      · simp [spl]
    | cons x t ih =>
      intro A h hA
      have hx : x ≠ 47 := fun e => h (by simp [e])
      have h2 := ih A (fun e => h (List.mem_cons_of_mem _ e)) hA
      exact spl_cons hx h2
  have main : ∀ (n : List UInt8) (r : List (List UInt8)), allE (spl 47 (escL n ++ ptLL r)) = some (n :: r) := by
    intro n r
    induction r generalizing n with
    | nil =>
      have h := spl_esc (escL n) [] (esc_no47 n) (Or.inl rfl)
      show allE (spl 47 (escL n ++ [])) = _
      rw [h]
      simp [allE, unE_esc]
    | cons m r ih =>
      have h := spl_esc (escL n) (47 :: (escL m ++ ptLL r)) (esc_no47 n) (Or.inr ⟨_, rfl⟩)
      show allE (spl 47 (escL n ++ 47 :: (escL m ++ ptLL r))) = _
      rw [h]
      simp only [allE, unE_esc, ih m]
  cases l with
  | nil => rfl
  | cons n r => simp only [ptLL, List.cons_append, pgO, beq_self_eq_true, if_true]; exact main n r
theorem pgO_slash (r : List UInt8) : (pgO (47 :: r)) = if ptLL ((spl 47 r).map leE) = 47 :: r then some ((spl 47 r).map leE) else none := by
  have h47 := spl_no 47 r
  have hj := join_spl 47 r
  simp only [pgO, beq_self_eq_true, if_true]
  by_cases h : ptLL ((spl 47 r).map leE) = 47 :: r
  · rw [if_pos h]
    exact all_back _ h47 (by rw [hj]; exact h)
  · rw [if_neg h]
    cases ha : allE (spl 47 r) with
    | none => rfl
    | some ts =>
      obtain ⟨h1, h2⟩ := all_yes _ _ h47 ha
      rw [hj, h1] at h2
      exact absurd h2 h

/-! ### Byte by byte -/
theorem leE_cons {x : UInt8} {h : List UInt8} (hh : x = 126 → ∀ y r, h = y :: r → y ≠ 48 ∧ y ≠ 49) : leE (x :: h) = x :: leE h := by
  cases h with
  | nil => rfl
  | cons y r =>
    by_cases hx : x = 126
    · obtain ⟨h0, h1⟩ := hh hx y r rfl
      simp [leE, hx, h0, h1]
    · simp [leE, hx]
/-- What the names will be: those that are done, the one that is being read, and what is left of the text. -/
def finP (init : List (List UInt8)) (l rest : List UInt8) : List (List UInt8) := match spl 47 rest with
  | h :: t => init ++ (l ++ leE h) :: t.map leE
  | [] => init ++ [l]
theorem fin_end (init : List (List UInt8)) (l : List UInt8) : finP init l [] = init ++ [l] := by simp [finP, spl, leE]
theorem fin_slash (init : List (List UInt8)) (l r : List UInt8) : finP init l (47 :: r) = finP (init ++ [l]) [] r := by
  obtain ⟨hd, tl, hs⟩ := spl_ne 47 r
  simp [finP, spl_eq, hs, leE]
theorem fin_two (init : List (List UInt8)) (l r : List UInt8) (y z : UInt8) (h : y = 48 ∧ z = 126 ∨ y = 49 ∧ z = 47) : finP init l (126 :: y :: r) = finP init (l ++ [z]) r := by
  obtain ⟨hd, tl, hs⟩ := spl_ne 47 r
  have hy : y ≠ 47 := by rcases h with ⟨rfl, _⟩ | ⟨rfl, _⟩ <;> decide
  have h1 := spl_cons hy hs
  have h2 : spl 47 (126 :: y :: r) = (126 :: y :: hd) :: tl := spl_cons (by decide) h1
  simp only [finP, h2, hs]
  rcases h with ⟨rfl, rfl⟩ | ⟨rfl, rfl⟩ <;> simp [leE]
theorem fin_one (init : List (List UInt8)) (l r : List UInt8) (x : UInt8) (h47 : x ≠ 47) (h : x = 126 → ∀ y s, r = y :: s → y ≠ 48 ∧ y ≠ 49) : finP init l (x :: r) = finP init (l ++ [x]) r := by
  obtain ⟨hd, tl, hs⟩ := spl_ne 47 r
  have h2 : spl 47 (x :: r) = (x :: hd) :: tl := spl_cons h47 hs
  have h3 : leE (x :: hd) = x :: leE hd := leE_cons (fun hx y s e => by
    subst e
    cases r with
    | nil => simp [spl] at hs
    | cons z r' =>
      have hz := h hx z r' rfl
      by_cases hz47 : z = 47
      · subst hz47; rw [spl_eq] at hs; simp at hs
      · obtain ⟨hd', tl', hs'⟩ := spl_ne 47 r'
        rw [spl_cons hz47 hs'] at hs
        simp only [List.cons.injEq] at hs
        rw [← hs.1.1]; exact hz)
  simp only [finP, h2, hs, h3]
  simp

end Go.Proofs.YtedeeckbgjalcaaDoor
