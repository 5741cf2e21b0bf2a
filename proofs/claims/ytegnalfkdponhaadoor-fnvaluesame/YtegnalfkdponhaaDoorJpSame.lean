
/-
  DERIVED. NO TWO VALUES THAT ARE OK ARE WRITTEN THE SAME.
-/
import Derived.Test.YtegnalfkdponhaaDoorJpInj
namespace Go.Proofs.YtegnalfkdponhaaDoor
open Go.RowKit
set_option linter.unusedVariables false
set_option linter.unusedSimpArgs false

theorem noDig_cons {c : UInt8} (r : List UInt8) (h : dig c = false) : NoDig (c :: r) := by
  intro x q hx
  cases hx
  exact h
theorem sep_inj {α : Type} (f : α → List UInt8) (P : α → Prop) (e : UInt8) (he : dig e = false) (he2 : e ≠ 44)
    (hf : ∀ x y r s, P x → P y → NoDig r → NoDig s → f x ++ r = f y ++ s → x = y ∧ r = s) (hh : ∀ x r s, P x → f x ++ r ≠ e :: s) :
    ∀ (l m : List α) (r s : List UInt8), (∀ x ∈ l, P x) → (∀ x ∈ m, P x) → sepL (l.map f) ++ e :: r = sepL (m.map f) ++ e :: s → l = m ∧ r = s
  | [], [], r, s, _, _, h => by simpa [sepL] using h
  | [], [y], r, s, _, hm, h => absurd (by simpa [sepL] using h.symm) (hh y (e :: s) r (hm y (by simp)))
  | [], y :: z :: m, r, s, _, hm, h => absurd (by simpa [sepL] using h.symm) (hh y (44 :: (sepL ((z :: m).map f) ++ e :: s)) r (hm y (by simp)))
  | [x], [], r, s, hl, _, h => absurd (by simpa [sepL] using h) (hh x (e :: r) s (hl x (by simp)))
  | x :: z :: l, [], r, s, hl, _, h => absurd (by simpa [sepL] using h) (hh x (44 :: (sepL ((z :: l).map f) ++ e :: r)) s (hl x (by simp)))
  | [x], [y], r, s, hl, hm, h => by
    have := hf x y (e :: r) (e :: s) (hl x (by simp)) (hm y (by simp)) (noDig_cons _ he) (noDig_cons _ he) (by simpa [sepL] using h)
    exact ⟨by rw [this.1], by simpa using this.2⟩
  | [x], y :: z :: m, r, s, hl, hm, h => by
    have := hf x y (e :: r) (44 :: (sepL ((z :: m).map f) ++ e :: s)) (hl x (by simp)) (hm y (by simp)) (noDig_cons _ he) (noDig_cons _ (by decide)) (by simpa [sepL] using h)
    have h2 := this.2
    rw [List.cons.injEq] at h2
    exact absurd h2.1 he2
  | x :: z :: l, [y], r, s, hl, hm, h => by
    have := hf x y (44 :: (sepL ((z :: l).map f) ++ e :: r)) (e :: s) (hl x (by simp)) (hm y (by simp)) (noDig_cons _ (by decide)) (noDig_cons _ he) (by simpa [sepL] using h)
    have h2 := this.2
    rw [List.cons.injEq] at h2
    exact absurd h2.1.symm he2
  | x :: z :: l, y :: z' :: m, r, s, hl, hm, h => by
    have := hf x y (44 :: (sepL ((z :: l).map f) ++ e :: r)) (44 :: (sepL ((z' :: m).map f) ++ e :: s)) (hl x (by simp)) (hm y (by simp)) (noDig_cons _ (by decide)) (noDig_cons _ (by decide)) (by simpa [sepL] using h)
    have h2 := this.2
    rw [List.cons.injEq] at h2
    have h3 := sep_inj f P e he he2 hf hh (z :: l) (z' :: m) r s (fun a ha => hl a (by simp at ha ⊢; exact Or.inr ha)) (fun a ha => hm a (by simp at ha ⊢; exact Or.inr ha)) h2.2
    exact ⟨by rw [this.1, h3.1], h3.2⟩

/-- What the first byte of a written value tells. -/
def cls (c : UInt8) : Int := if c = 110 then 0 else if c = 116 ∨ c = 102 then 1 else if c = 34 then 3 else if c = 91 then 4 else if c = 123 then 5 else if dig c ∨ c = 45 then 2 else 9
theorem cls_dig (c : UInt8) (h : dig c = true) : cls c = 2 := by
  have h1 : 48 ≤ c.toNat ∧ c.toNat ≤ 57 := by simpa [dig] using h
  have hn : ∀ k : UInt8, 57 < k.toNat ∨ k.toNat < 48 → c ≠ k := by
    intro k hk hc
    rw [hc] at h1
    omega
  unfold cls
  rw [if_neg (hn 110 (by decide)), if_neg (by rintro (h | h); exact hn 116 (by decide) h; exact hn 102 (by decide) h), if_neg (hn 34 (by decide)), if_neg (hn 91 (by decide)), if_neg (hn 123 (by decide)), if_pos (Or.inl h)]
theorem dec_head (u : Nat) : ∃ c q, Lib.decDigits u = c :: q ∧ dig c = true := by
  have hd := dec_dig u
  cases hx : Lib.decDigits u with
  | nil =>
    rw [Lib.decDigits] at hx
    split at hx <;> simp at hx
  | cons c q => exact ⟨c, q, rfl, hd c (by rw [hx]; simp)⟩
theorem itoa_head (n : Int) : ∃ c q, Lib.itoa n = c :: q ∧ cls c = 2 := by
  unfold Lib.itoa
  split
  · exact ⟨45, _, rfl, by decide⟩
  · obtain ⟨c, q, h1, h2⟩ := dec_head n.toNat
    exact ⟨c, q, h1, cls_dig c h2⟩
theorem ok_kind {d : Nat} {t : Vl} (h : okB false (d + 1) t = true) : t.kind = 0 ∨ t.kind = 1 ∨ t.kind = 2 ∨ t.kind = 3 ∨ t.kind = 4 ∨ t.kind = 5 := by
  rw [okB_succ] at h
  simp only [Bool.and_eq_true, Bool.false_or, decide_eq_true_eq] at h
  obtain ⟨⟨⟨h1, h2⟩, _⟩, _⟩ := h
  unfold plainB at h1
  by_cases k0 : t.kind = 0
  · exact Or.inl k0
  by_cases k1 : t.kind = 1
  · exact Or.inr (Or.inl k1)
  by_cases k2 : t.kind = 2
  · exact Or.inr (Or.inr (Or.inl k2))
  by_cases k3 : t.kind = 3
  · exact Or.inr (Or.inr (Or.inr (Or.inl k3)))
  by_cases k4 : t.kind = 4
  · exact Or.inr (Or.inr (Or.inr (Or.inr (Or.inl k4))))
  by_cases k5 : t.kind = 5
  · exact Or.inr (Or.inr (Or.inr (Or.inr (Or.inr k5))))
  rw [if_neg k0, if_neg k1, if_neg k2, if_neg k3, if_neg k4, if_neg k5, if_neg (by omega)] at h1
  exact absurd h1 (by decide)
theorem put_head {d : Nat} {t : Vl} (h : okB false (d + 1) t = true) : ∃ c q, putL (d + 1) t = c :: q ∧ cls c = t.kind := by
  rcases ok_kind h with k | k | k | k | k | k
  · exact ⟨110, [117, 108, 108], by simp [putL, k], by rw [k]; decide⟩
  · by_cases n : t.num = 1
    · exact ⟨116, [114, 117, 101], by simp [putL, k, n], by rw [k]; decide⟩
    · exact ⟨102, [97, 108, 115, 101], by simp [putL, k, n], by rw [k]; decide⟩
  · obtain ⟨c, q, h1, h2⟩ := itoa_head t.num
    exact ⟨c, q, by simp [putL, k, h1], by rw [k, h2]⟩
  · exact ⟨34, qAll t.text.data.toList ++ [34], by simp [putL, k, qTxt], by rw [k]; decide⟩
  · exact ⟨91, sepL (t.list.map (putL d)) ++ [93], by simp [putL, k], by rw [k]; decide⟩
  · exact ⟨123, sepL ((t.names.zip t.list).map (fun x => qTxt x.1.data.toList ++ 58 :: putL d x.2)) ++ [125], by simp [putL, k], by rw [k]; decide⟩

theorem text_ext {a b : ByteArray} (h : a.data.toList = b.data.toList) : a = b := by
  cases a; cases b
  simp only at h
  rw [Array.toList_inj.mp h]
theorem text_none {s : ByteArray} (h : s.toList.isEmpty = true) : s = ByteArray.empty := by
  have h1 : s.toList = [] := List.isEmpty_iff.1 h
  rw [ByteArray.toList_eq] at h1
  exact text_ext (by rw [h1]; rfl)
theorem vl_ext {t u : Vl} (h1 : t.kind = u.kind) (h2 : t.num = u.num) (h3 : t.text = u.text) (h4 : t.list = u.list) (h5 : t.names = u.names) : t = u := by
  cases t; cases u
  simp only at h1 h2 h3 h4 h5
  subst h1 h2 h3 h4 h5
  rfl
theorem ok_facts {d : Nat} {t : Vl} (h : okB false (d + 1) t = true) : plainB t.kind t.num t.text t.list.length t.names.length = true ∧ ∀ x ∈ t.list, okB false d x = true := by
  rw [okB_succ] at h
  simp only [Bool.and_eq_true, List.all_eq_true] at h
  exact ⟨h.1.1.1, h.2⟩
theorem put_ne {d : Nat} {t : Vl} (h : okB false d t = true) (e : UInt8) (he : cls e = 9) (r s : List UInt8) : putL d t ++ r ≠ e :: s := by
  cases d with
  | zero => exact absurd h (by simp [okB])
  | succ d =>
    obtain ⟨c, q, h1, h2⟩ := put_head h
    rw [h1, List.cons_append]
    intro h3
    rw [List.cons.injEq] at h3
    rw [h3.1, he] at h2
    have := ok_kind h
    omega
theorem put_inj : ∀ (d : Nat) (t u : Vl) (r s : List UInt8), okB false d t = true → okB false d u = true → NoDig r → NoDig s → putL d t ++ r = putL d u ++ s → t = u ∧ r = s
  | 0, t, u, r, s, h, _, _, _, _ => absurd h (by simp [okB])
  | d + 1, t, u, r, s, ht, hu, hr, hs, h => by
    have hk : t.kind = u.kind := by
      obtain ⟨c, q, a1, a2⟩ := put_head ht
      obtain ⟨c', q', b1, b2⟩ := put_head hu
      rw [a1, b1, List.cons_append, List.cons_append, List.cons.injEq] at h
      rw [← a2, ← b2, h.1]
    obtain ⟨pt, lt⟩ := ok_facts ht
    obtain ⟨pu, lu⟩ := ok_facts hu
    rcases ok_kind ht with k | k | k | k | k | k
    · have k' : u.kind = 0 := hk ▸ k
      rw [k] at pt; rw [k'] at pu
      simp [plainB] at pt pu
      simp [putL, k, k'] at h
      exact ⟨vl_ext hk (by rw [pt.1.1, pu.1.1]) (by rw [text_none (List.isEmpty_iff.2 pt.1.2), text_none (List.isEmpty_iff.2 pu.1.2)]) (by rw [pt.2.1, pu.2.1]) (by rw [pt.2.2, pu.2.2]), h⟩
    · have k' : u.kind = 1 := hk ▸ k
      rw [k] at pt; rw [k'] at pu
      simp [plainB] at pt pu
      have hn : t.num = u.num ∧ r = s := by
        by_cases n : t.num = 1 <;> by_cases n' : u.num = 1 <;> simp [putL, k, k', n, n'] at h
        · exact ⟨by omega, h⟩
        · exact ⟨by omega, h⟩
      exact ⟨vl_ext hk hn.1 (by rw [text_none (List.isEmpty_iff.2 pt.1.2), text_none (List.isEmpty_iff.2 pu.1.2)]) (by rw [pt.2.1, pu.2.1]) (by rw [pt.2.2, pu.2.2]), hn.2⟩
    · have k' : u.kind = 2 := hk ▸ k
      rw [k] at pt; rw [k'] at pu
      simp [plainB] at pt pu
      have hn : t.num = u.num ∧ r = s := itoa_inj _ _ r s hr hs (by simpa [putL, k, k'] using h)
      exact ⟨vl_ext hk hn.1 (by rw [text_none (List.isEmpty_iff.2 pt.1.2), text_none (List.isEmpty_iff.2 pu.1.2)]) (by rw [pt.2.1, pu.2.1]) (by rw [pt.2.2, pu.2.2]), hn.2⟩
    · have k' : u.kind = 3 := hk ▸ k
      rw [k] at pt; rw [k'] at pu
      simp [plainB] at pt pu
      have hn := qTxt_inj t.text.data.toList u.text.data.toList r s (by simpa [putL, k, k'] using h)
      exact ⟨vl_ext hk (by rw [pt.1.1, pu.1.1]) (text_ext hn.1) (by rw [pt.2.1, pu.2.1]) (by rw [pt.2.2, pu.2.2]), hn.2⟩
    · have k' : u.kind = 4 := hk ▸ k
      rw [k] at pt; rw [k'] at pu
      simp [plainB] at pt pu
      have hn := sep_inj (putL d) (fun x => okB false d x = true) 93 (by decide) (by decide) (fun x y r s hx hy hr hs h => put_inj d x y r s hx hy hr hs h)
        (fun x r s hx => put_ne hx 93 (by decide) r s) t.list u.list r s lt lu (by simpa [putL, k, k'] using h)
      exact ⟨vl_ext hk (by rw [pt.1.1.1, pu.1.1.1]) (by rw [text_none (List.isEmpty_iff.2 pt.1.1.2), text_none (List.isEmpty_iff.2 pu.1.1.2)]) hn.1 (by rw [pt.1.2, pu.1.2]), hn.2⟩
    · have k' : u.kind = 5 := hk ▸ k
      rw [k] at pt; rw [k'] at pu
      simp [plainB] at pt pu
      have hn := sep_inj (fun x : ByteArray × Vl => qTxt x.1.data.toList ++ 58 :: putL d x.2) (fun x => okB false d x.2 = true) 125 (by decide) (by decide)
        (fun x y r s hx hy hr hs h => by
          have h1 := qTxt_inj x.1.data.toList y.1.data.toList (58 :: (putL d x.2 ++ r)) (58 :: (putL d y.2 ++ s)) (by simpa using h)
          have h2 := h1.2
          rw [List.cons.injEq] at h2
          have h3 := put_inj d x.2 y.2 r s hx hy hr hs h2.2
          exact ⟨Prod.ext (text_ext h1.1) h3.1, h3.2⟩)
        (fun x r s hx h3 => by simp [qTxt] at h3) (t.names.zip t.list) (u.names.zip u.list) r s
        (fun x hx => lt x.2 (List.of_mem_zip hx).2) (fun x hx => lu x.2 (List.of_mem_zip hx).2) (by simpa [putL, k, k'] using h)
      have e1 : t.names = u.names := by
        rw [← List.map_fst_zip (l₁ := t.names) (l₂ := t.list) (by omega), ← List.map_fst_zip (l₁ := u.names) (l₂ := u.list) (by omega), hn.1]
      have e2 : t.list = u.list := by
        rw [← List.map_snd_zip (l₁ := t.names) (l₂ := t.list) (by omega), ← List.map_snd_zip (l₁ := u.names) (l₂ := u.list) (by omega), hn.1]
      exact ⟨vl_ext hk (by rw [pt.1.1.1, pu.1.1.1]) (by rw [text_none (List.isEmpty_iff.2 pt.1.1.2), text_none (List.isEmpty_iff.2 pu.1.1.2)]) e2 e1, hn.2⟩
/-- Two values that are ok are the same if they are written the same. -/
theorem put_same {d : Nat} {t u : Vl} (ht : okB false d t = true) (hu : okB false d u = true) : putL d t = putL d u ↔ t = u :=
  ⟨fun h => (put_inj d t u [] [] ht hu (by intro c q h; cases h) (by intro c q h; cases h) (by simpa using h)).1, fun h => by rw [h]⟩

end Go.Proofs.YtegnalfkdponhaaDoor
