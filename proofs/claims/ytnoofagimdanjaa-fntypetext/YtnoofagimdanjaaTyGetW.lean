/-
  DERIVED. THE WALKS OF spec.l1Word, and of spec.l2Get at a word.
-/
import Derived.Test.YtnoofagimdanjaaStrFn
import Derived.Test.YtnoofagimdanjaaL2Type
namespace Go.Proofs.Ytnoofagimdanjaa
open Go.RowKit
set_option linter.unusedVariables false
set_option linter.unusedSimpArgs false

theorem word_take {l : List UInt8} {k : Nat} (h : ∀ u ∈ l.take k, nb u = true) (hr : ∀ c, (l.drop k).head? = some c → nb c = false) : wordL l = l.take k ∧ restL l = l.drop k := by
  have := take_name h hr
  rwa [List.take_append_drop] at this

theorem head_drop (s : ByteArray) (k : Nat) (h : k < s.size) : (s.data.toList.drop k).head? = some s[k] := by
  have hl := len_toList s
  rw [List.drop_eq_getElem_cons (by omega)]
  rfl

set_option maxHeartbeats 400000 in
theorem l1Word_any (s : ByteArray) (w : World) (hs : s.size ≤ 140737488351232) :
    Calls Try.prog 28 #[.string s] w fun e w' => e = .returned (.string (B (wordL s.data.toList))) ∧ w' = w := by
  go_enter Try.func28, Try.ntmps28
  go_wp2_with fail
  go_loop [3] (fun i => ∃ k : Nat, k ≤ s.size ∧ i = .int .i64 k ∧ Hid (∀ u ∈ s.data.toList.take k, nb u = true)) (fun i => s.size - (intOf i).toNat)
  case atStart => exact ⟨0, Nat.zero_le _, rfl, fun u h => by simp at h⟩
  case round =>
    obtain ⟨k, hk, rfl, HP⟩ := hrel
    by_cases hlt : k < s.size
    · have hnb : nb s[k] = (letterB (s[k].toNat : Int) || figureB (s[k].toNat : Int)) := rfl
      have HN : Hid (nb s[k] = true → ∀ u ∈ s.data.toList.take (k + 1), nb u = true) := by
        intro h u hu
        rw [take_snoc s k hlt] at hu
        rcases List.mem_append.1 hu with hu | hu
        · exact HP.out u hu
        · simp at hu; rw [hu]; exact h
      have HE : Hid (nb s[k] = false → B (wordL s.data.toList) = s.extract 0 k) := by
        intro h
        obtain ⟨h1, _⟩ := word_take HP.out (fun c hc => by rw [head_drop s k hlt] at hc; simp at hc; rw [← hc]; exact h)
        rw [h1]
        exact (B_of_data (by rw [Lib.extract_data, List.drop_zero, Nat.sub_zero])).symm
      have hd : decide ((k : Int) < (s.size : Int)) = true := by simp; omega
      cases hl : letterB (s[k].toNat : Int)
      · cases hf : figureB (s[k].toNat : Int)
        · have hfin : Hid (B (wordL s.data.toList) = s.extract 0 k) := HE.out (by rw [hnb, hl, hf]; rfl)
          clear HP HN HE hnb
          go_wp2_with (first | (go_at_call 33; refine (l1Letter_any _ _).mono ?_; rintro e w' ⟨rfl, rfl⟩) | (go_at_call 34; refine (l1Figure_any _ _).mono ?_; rintro e w' ⟨rfl, rfl⟩))
          go_ret
          exact ⟨ret_string hfin.out.symm, rfl⟩
        · have HN2 : Hid (∀ u ∈ s.data.toList.take (k + 1), nb u = true) := HN.out (by rw [hnb, hl, hf]; rfl)
          clear HP HN HE hnb
          go_wp2_with (first | (go_at_call 33; refine (l1Letter_any _ _).mono ?_; rintro e w' ⟨rfl, rfl⟩) | (go_at_call 34; refine (l1Figure_any _ _).mono ?_; rintro e w' ⟨rfl, rfl⟩))
          exact ⟨⟨k + 1, by omega, by go_num, HN2⟩, by simp [intOf]; omega⟩
      · have HN2 : Hid (∀ u ∈ s.data.toList.take (k + 1), nb u = true) := HN.out (by rw [hnb, hl]; rfl)
        clear HP HN HE hnb
        go_wp2_with (first | (go_at_call 33; refine (l1Letter_any _ _).mono ?_; rintro e w' ⟨rfl, rfl⟩) | (go_at_call 34; refine (l1Figure_any _ _).mono ?_; rintro e w' ⟨rfl, rfl⟩))
        exact ⟨⟨k + 1, by omega, by go_num, HN2⟩, by simp [intOf]; omega⟩
    · obtain rfl : k = s.size := by omega
      have hfin : Hid (B (wordL s.data.toList) = s) := by
        have hl := len_toList s
        obtain ⟨h1, _⟩ := word_take HP.out (fun c hc => by rw [List.drop_of_length_le (by omega)] at hc; simp at hc)
        show _ = _
        rw [h1, List.take_of_length_le (by omega)]
        rfl
      have hd : decide ((s.size : Int) < (s.size : Int)) = false := by simp
      clear HP
      go_wp2_with fail
      go_ret
      exact ⟨ret_string hfin.out.symm, rfl⟩

def GetPost (d : Nat) (s : ByteArray) (w : World) (e : Ending) (w' : World) : Prop :=
  (match getL d s.data.toList with
  | some (t, r) => ∃ a c, e = .returned (.tuple #[.agg #[.string t.name, .slice a t.of.length c, .bool t.must], .string (B r), .bool true]) ∧ TyR w' w.heap.size d t [.string t.name, .slice a t.of.length c, .bool t.must]
  | none => e = .returned (.tuple #[.agg #[.string ByteArray.empty, .slice none 0 0, .bool false], .string ByteArray.empty, .bool false])) ∧ Below w.heap.size w w'
def GetS (d : Nat) : Prop := ∀ (s : ByteArray) (w : World), s.size ≤ 140737488351232 → Calls Try.prog 21 #[.string s, .int .i64 (d : Int)] w (GetPost d s w)

def isB (s : ByteArray) (c : UInt8) : Bool := s.data.toList.head? == some c

theorem isB_pos (s : ByteArray) (c : UInt8) (h : 0 < s.size) : isB s c = ((s[0].toNat : Int) == (c.toNat : Int)) := by
  obtain ⟨t, ht⟩ := first_cons s h
  rw [isB, ht, Bool.eq_iff_iff]
  simp only [List.head?_cons, beq_iff_eq, Option.some.injEq]
  constructor
  · intro h; rw [h]
  · intro h; exact UInt8.toNat_inj.1 (by omega)
theorem isB_zero (s : ByteArray) (c : UInt8) (h : ¬ 0 < s.size) : isB s c = false := by
  have := len_toList s
  have h0 : s.data.toList = [] := List.eq_nil_of_length_eq_zero (by omega)
  rw [isB, h0]; rfl

theorem bang_yes (t : Ty) (s : ByteArray) (n : Nat) (hn : n = s.size) (h : 0 < s.size) (h33 : ((s[0].toNat : Int) == 33) = true) : bangL t s.data.toList = ({ t with must := true }, (s.extract 1 n).data.toList) := by
  subst hn
  have h1 : s.data.toList.head? = some 33 := by
    have := isB_pos s 33 h
    rw [show ((33 : UInt8).toNat : Int) = 33 from rfl, h33] at this
    simpa [isB] using this
  unfold bangL
  rw [if_pos h1, Lib.extract_to_end, List.drop_one]
theorem bang_no (t : Ty) (s : ByteArray) (h : 0 < s.size) (h33 : ((s[0].toNat : Int) == 33) = false) : bangL t s.data.toList = (t, s.data.toList) := by
  have h1 : ¬ s.data.toList.head? = some 33 := by
    have := isB_pos s 33 h
    rw [show ((33 : UInt8).toNat : Int) = 33 from rfl, h33] at this
    simpa [isB] using this
  unfold bangL
  rw [if_neg h1]
theorem bang_end (t : Ty) (s : ByteArray) (h : ¬ 0 < s.size) : bangL t s.data.toList = (t, s.data.toList) := by
  have h1 : ¬ s.data.toList.head? = some 33 := by
    have := isB_zero s 33 h
    simpa [isB] using this
  unfold bangL
  rw [if_neg h1]

theorem word_size (s : ByteArray) : (B (wordL s.data.toList)).size ≤ s.size := by
  have h1 := len_toList (B (wordL s.data.toList))
  have h2 := len_toList s
  rw [data_B] at h1
  have h3 : (wordL s.data.toList).length ≤ s.data.toList.length := (List.takeWhile_sublist _).length_le
  omega
theorem rest_data (s : ByteArray) : (s.extract (B (wordL s.data.toList)).size s.size).data.toList = restL s.data.toList := by
  have h1 := len_toList (B (wordL s.data.toList))
  rw [data_B] at h1
  rw [Lib.extract_to_end, ← h1]
  generalize s.data.toList = l
  have h2 : wordL l ++ restL l = l := List.takeWhile_append_dropWhile
  have h3 := List.drop_left (l₁ := wordL l) (l₂ := restL l)
  rwa [h2] at h3

theorem get_post_word (d : Nat) (s : ByteArray) (w w' : World) (hs : s.size ≤ 140737488351232) (hc : ¬ (s.data.toList.head? = some 91 ∧ 1 ≤ d)) (W r : ByteArray) (m : Bool) (hW : B (wordL s.data.toList) = W)
    (hb : bangL ⟨W, [], false⟩ (restL s.data.toList) = (⟨W, [], m⟩, r.data.toList)) (hB : Below w.heap.size w w') :
    GetPost (d + 1) s w (.returned (.tuple #[.agg #[.string W, .slice none 0 0, .bool m], .string r, .bool true])) w' := by
  refine ⟨?_, hB⟩
  have hg : getL (d + 1) s.data.toList = some (⟨W, [], m⟩, r.data.toList) := by
    unfold getL
    rw [if_neg hc, hW, hb]
  rw [hg]
  have hws := word_size s
  rw [hW] at hws
  exact ⟨none, 0, by rw [B_data]; rfl, _, rfl, (by show W.size ≤ _; omega), Or.inl ⟨rfl, rfl⟩⟩

set_option maxHeartbeats 2000000 in
theorem l2Get_word (d : Nat) (hd : d ≤ 5) (s : ByteArray) (w : World) (hs : s.size ≤ 140737488351232) (hc : ¬ (s.data.toList.head? = some 91 ∧ 1 ≤ d)) :
    Calls Try.prog 21 #[.string s, .int .i64 ((d : Int) + 1)] w (GetPost (d + 1) s w) := by
  have hx : (0 < s.size ∧ isB s 91 = false) ∨ (0 < s.size ∧ isB s 91 = true ∧ d = 0) ∨ ¬ 0 < s.size := by
    by_cases hp : 0 < s.size
    · by_cases h : s.data.toList.head? = some 91
      · have : ¬ 1 ≤ d := fun h1 => hc ⟨h, h1⟩
        exact Or.inr (Or.inl ⟨hp, by simp [isB, h], by omega⟩)
      · exact Or.inl ⟨hp, by simp [isB, h]⟩
    · exact Or.inr (Or.inr hp)
  have HP : Hid (∀ (w' : World) (W r : ByteArray) (m : Bool), B (wordL s.data.toList) = W → bangL ⟨W, [], false⟩ (restL s.data.toList) = (⟨W, [], m⟩, r.data.toList) → Below w.heap.size w w' →
    GetPost (d + 1) s w (.returned (.tuple #[.agg #[.string W, .slice none 0 0, .bool m], .string r, .bool true])) w') := fun w' W r m => get_post_word d s w w' hs hc W r m
  have HR : Hid ((s.extract (B (wordL s.data.toList)).size s.size).data.toList = restL s.data.toList) := rest_data s
  have hwz : ((B (wordL s.data.toList)).size : Int) ≤ (s.size : Int) := by have := word_size s; omega
  have hdd : (d : Int) ≤ 5 := by omega
  clear hc
  rcases hx with ⟨hp, h91⟩ | ⟨hp, h91, rfl⟩ | hp
  · have hq' : ((s[0].toNat : Int) == 91) = false := (isB_pos s 91 hp).symm.trans h91
    have hpi : decide ((0 : Int) < (s.size : Int)) = true := by simp; omega
    clear h91
    go_enter Try.func21, Try.ntmps21
    go_wp2_with fail
    refine (l1Word_any s _ hs).mono ?_
    rintro e w1 ⟨rfl, rfl⟩
    generalize B (wordL s.data.toList) = W at *
    go_wp2_with fail
    · rename_i h1 h2
      have hz : s.size - W.size = (s.extract W.size s.size).size := by simp [ByteArray.size_extract]
      have hb := bang_yes ⟨W, [], false⟩ (s.extract W.size s.size) _ hz (by omega) h2
      rw [HR.out] at hb
      exact bodyPost_ret (v := .tuple #[.agg #[.string W, .slice none 0 0, .bool true], .string ((s.extract W.size s.size).extract 1 (s.size - W.size)), .bool true]) (by simp [results, Try.results21, go_sem]) rfl (HP.out _ W _ true rfl hb (((Below.refl _ _).alloc (Nat.le_refl _) _).alloc (by simp) _))
    · rename_i h1 h2
      have hz : s.size - W.size = (s.extract W.size s.size).size := by simp [ByteArray.size_extract]
      have hb := bang_no ⟨W, [], false⟩ (s.extract W.size s.size) (by omega) h2
      rw [HR.out] at hb
      exact bodyPost_ret (v := .tuple #[.agg #[.string W, .slice none 0 0, .bool false], .string (s.extract W.size s.size), .bool true]) (by simp [results, Try.results21, go_sem]) rfl (HP.out _ W _ false rfl (by rw [HR.out]; exact hb) (((Below.refl _ _).alloc (Nat.le_refl _) _).alloc (by simp) _))
    · rename_i h1
      have hz : s.size - W.size = (s.extract W.size s.size).size := by simp [ByteArray.size_extract]
      have hb := bang_end ⟨W, [], false⟩ (s.extract W.size s.size) (by omega)
      rw [HR.out] at hb
      exact bodyPost_ret (v := .tuple #[.agg #[.string W, .slice none 0 0, .bool false], .string (s.extract W.size s.size), .bool true]) (by simp [results, Try.results21, go_sem]) rfl (HP.out _ W _ false rfl (by rw [HR.out]; exact hb) (((Below.refl _ _).alloc (Nat.le_refl _) _).alloc (by simp) _))
  · have hq' : ((s[0].toNat : Int) == 91) = true := (isB_pos s 91 hp).symm.trans h91
    have hpi : decide ((0 : Int) < (s.size : Int)) = true := by simp; omega
    clear h91
    go_enter Try.func21, Try.ntmps21
    go_wp2_with fail
    refine (l1Word_any s _ hs).mono ?_
    rintro e w1 ⟨rfl, rfl⟩
    generalize B (wordL s.data.toList) = W at *
    go_wp2_with fail
    · rename_i h1 h2
      have hz : s.size - W.size = (s.extract W.size s.size).size := by simp [ByteArray.size_extract]
      have hb := bang_yes ⟨W, [], false⟩ (s.extract W.size s.size) _ hz (by omega) h2
      rw [HR.out] at hb
      exact bodyPost_ret (v := .tuple #[.agg #[.string W, .slice none 0 0, .bool true], .string ((s.extract W.size s.size).extract 1 (s.size - W.size)), .bool true]) (by simp [results, Try.results21, go_sem]) rfl (HP.out _ W _ true rfl hb (((Below.refl _ _).alloc (Nat.le_refl _) _).alloc (by simp) _))
    · rename_i h1 h2
      have hz : s.size - W.size = (s.extract W.size s.size).size := by simp [ByteArray.size_extract]
      have hb := bang_no ⟨W, [], false⟩ (s.extract W.size s.size) (by omega) h2
      rw [HR.out] at hb
      exact bodyPost_ret (v := .tuple #[.agg #[.string W, .slice none 0 0, .bool false], .string (s.extract W.size s.size), .bool true]) (by simp [results, Try.results21, go_sem]) rfl (HP.out _ W _ false rfl (by rw [HR.out]; exact hb) (((Below.refl _ _).alloc (Nat.le_refl _) _).alloc (by simp) _))
    · rename_i h1
      have hz : s.size - W.size = (s.extract W.size s.size).size := by simp [ByteArray.size_extract]
      have hb := bang_end ⟨W, [], false⟩ (s.extract W.size s.size) (by omega)
      rw [HR.out] at hb
      exact bodyPost_ret (v := .tuple #[.agg #[.string W, .slice none 0 0, .bool false], .string (s.extract W.size s.size), .bool true]) (by simp [results, Try.results21, go_sem]) rfl (HP.out _ W _ false rfl (by rw [HR.out]; exact hb) (((Below.refl _ _).alloc (Nat.le_refl _) _).alloc (by simp) _))
  · have hpi : decide ((0 : Int) < (s.size : Int)) = false := decide_eq_false (by omega)
    have he : s.data.toList = [] := List.eq_nil_of_length_eq_zero (by rw [len_toList]; omega)
    have HE : Hid (restL s.data.toList = [] ∧ s.data.toList = []) := ⟨by rw [he]; rfl, he⟩
    clear he
    have hs0 : (s.size : Int) = 0 := by omega
    go_enter Try.func21, Try.ntmps21
    go_wp2_with fail
    refine (l1Word_any s _ hs).mono ?_
    rintro e w1 ⟨rfl, rfl⟩
    generalize B (wordL s.data.toList) = W at *
    have hw0 : W.size = 0 := by omega
    go_wp2_with fail
    exact bodyPost_ret (v := .tuple #[.agg #[.string W, .slice none 0 0, .bool false], .string s, .bool true]) (by simp [results, Try.results21, go_sem]) rfl (HP.out _ W _ false rfl (by rw [HE.out.1, HE.out.2]; rfl) (((Below.refl _ _).alloc (Nat.le_refl _) _).alloc (by simp) _))

end Go.Proofs.Ytnoofagimdanjaa
