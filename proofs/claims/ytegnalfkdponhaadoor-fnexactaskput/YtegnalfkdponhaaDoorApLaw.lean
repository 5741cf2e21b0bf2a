
/-
  DERIVED. spec.AskPut, impl.AskPut, and laws.FnExactAskPut: the walks.
-/
import Derived.Test.YtegnalfkdponhaaDoorJsA
import Derived.Test.YtegnalfkdponhaaDoorShelf
import Derived.Lib.AppendIntMem
namespace Go.Proofs.YtegnalfkdponhaaDoor
open Go.RowKit
set_option linter.unusedVariables false
set_option linter.unusedSimpArgs false

def Tab (w : World) : Prop := Lib.TabIs Tryd.prog w "internal/strconv.uint64pow10" .u64 Lib.pow10Tab
theorem Tab.on {w w' : World} (h : Tab w) (hb : Below w.heap.size w w') : Tab w' := Lib.tabBelow_of_tabIs h w' hb

theorem itoa_lenA {n : Int} (h1 : 0 ≤ n) (h2 : n ≤ 2147483647) : (mkB (Lib.itoa n)).size ≤ 20 := by
  rw [mkB_size]
  unfold Lib.itoa
  rw [if_neg (by omega), Lib.decDigits_length]
  have hp : (10 : Nat) ^ (9 + 1) = 10000000000 := by decide
  have := nDigits_le' 9 n.toNat (by omega)
  omega

/-- Whether a question may be written. -/
def askOk (name doc given : ByteArray) : Bool := (name.toList.isEmpty || nameB name.data.toList) && decide (doc.size ≤ 1500) && decide (given.size ≤ 2000)
/-- How long a text is, in figures. -/
def decT (s : ByteArray) : ByteArray := mkB (Lib.itoa s.size)
theorem decT_size {s : ByteArray} (h : s.size ≤ 1048576) : (decT s).size ≤ 20 := itoa_lenA (by omega) (by omega)
/-- The text of a question. -/
def askT (name doc given : ByteArray) : ByteArray := (((((((⟨#[97, 115, 107, 32]⟩ ++ name) ++ ⟨#[32]⟩) ++ decT doc) ++ ⟨#[32]⟩) ++ decT given) ++ ⟨#[10]⟩) ++ doc) ++ given
def askB (name doc given : ByteArray) : ByteArray := if askOk name doc given then askT name doc given else ⟨#[]⟩
theorem askB_no {name doc given : ByteArray} (h : askOk name doc given = false) : askB name doc given = ⟨#[]⟩ := by unfold askB; rw [h]; rfl
theorem askB_yes {name doc given : ByteArray} (h : askOk name doc given = true) : askB name doc given = askT name doc given := by unfold askB; rw [h]; rfl
theorem beq_refl_ap (s : ByteArray) : (s.toList == s.toList) = true := by simp

set_option maxHeartbeats 1000000 in
theorem isNameOrNone_any (s : ByteArray) (w : World) (hs : s.size ≤ maxLen) :
    Calls Tryd.prog 29 #[.string s] w fun e w' => e = .returned (.bool (s.toList.isEmpty || nameB s.data.toList)) ∧ w' = w := by
  cases hn : s.toList.isEmpty
  · go_enter Tryd.func29, Tryd.ntmps29
    go_wp2_with (go_at_call 44; refine (isName_any _ _ hs).mono ?_; rintro e w' ⟨rfl, rfl⟩)
    go_ret
    exact ⟨by simp, rfl⟩
  · go_enter Tryd.func29, Tryd.ntmps29
    go_wp2_with fail
    go_ret
    exact ⟨by simp, rfl⟩

def TextIs (name doc given : ByteArray) (w : World) (e : Ending) (w' : World) : Prop := e = .returned (.string (askB name doc given)) ∧ Below w.heap.size w w'

set_option maxHeartbeats 4000000 in
theorem specAskPut_any (name doc given : ByteArray) (w : World) (h1 : name.size ≤ 1048576) (h2 : doc.size ≤ 1048576) (h3 : given.size ≤ 1048576) :
    Calls Tryd.prog 11 #[.string name, .string doc, .string given] w (TextIs name doc given w) := by
  have hm : name.size ≤ maxLen := by unfold maxLen; omega
  have hdi : decide ((1500 : Int) < (doc.size : Int)) = !decide (doc.size ≤ 1500) := by rw [Bool.eq_iff_iff]; simp; omega
  have hgi : decide ((2000 : Int) < (given.size : Int)) = !decide (given.size ≤ 2000) := by rw [Bool.eq_iff_iff]; simp; omega
  have HC : Hid (∀ (s : ByteArray) (W : World), s.size ≤ 1048576 → Below w.heap.size w W → Calls Tryd.prog 28 #[.int .i64 (s.size : Int)] W fun e w' => e = .returned (.string (decT s)) ∧ Hid (Below w.heap.size w w')) := fun s W h hb => (l1Dec_any _ (by omega) (by omega) W).mono fun e w' ⟨r1, r2⟩ => ⟨r1, hb.trans (r2.mono hb.size)⟩
  cases hok : askOk name doc given
  · have HN : Hid (askB name doc given = ⟨#[]⟩) := askB_no hok
    have HOK : Hid (askOk name doc given = false) := hok
    clear hok
    cases hn : name.toList.isEmpty <;> cases hb : nameB name.data.toList <;> by_cases hd : doc.size ≤ 1500 <;> by_cases hg : given.size ≤ 2000
    all_goals first
      | (exfalso; have h := HOK.out; unfold askOk at h; rw [hn, hb, decide_eq_true hd, decide_eq_true hg] at h; exact absurd h (by decide))
      | skip
    all_goals
      first | rw [decide_eq_true hd] at hdi | rw [decide_eq_false hd] at hdi
      first | rw [decide_eq_true hg] at hgi | rw [decide_eq_false hg] at hgi
      simp only [Bool.not_true, Bool.not_false] at hdi hgi
      clear HOK hd hg
      go_enter Tryd.func11, Tryd.ntmps11
      go_wp2_with (go_at_call 27; refine (l1Name_any _ _ hm).mono ?_; rintro e w' ⟨rfl, rfl⟩; try rw [hn, hb])
      go_ret
      exact ⟨ret_string HN.out.symm, Below.refl _ _⟩
  · have HN : Hid (askB name doc given = askT name doc given) := askB_yes hok
    have hx := decT_size h2
    have hy := decT_size h3
    have hd : doc.size ≤ 1500 := by unfold askOk at hok; simp at hok; omega
    have hg : given.size ≤ 2000 := by unfold askOk at hok; simp at hok; omega
    have hor : (name.toList.isEmpty || nameB name.data.toList) = true := by unfold askOk at hok; simp only [Bool.and_eq_true] at hok; exact hok.1.1
    rw [decide_eq_true hd] at hdi
    rw [decide_eq_true hg] at hgi
    simp only [Bool.not_true] at hdi hgi
    cases hn : name.toList.isEmpty <;> cases hb : nameB name.data.toList
    all_goals first
      | (exfalso; rw [hn, hb] at hor; exact absurd hor (by decide))
      | skip
    all_goals
      clear hor hok
      go_enter Tryd.func11, Tryd.ntmps11
      go_wp2_with (first | (go_at_call 27; refine (l1Name_any _ _ hm).mono ?_; rintro e w' ⟨rfl, rfl⟩; try rw [hn, hb]) | (go_at_call 28; refine (Hid.out HC _ _ (by omega) (by first | exact Hid.out HB | exact Below.refl _ _)).mono ?_; rintro e w1 ⟨rfl, HB⟩))
      all_goals
        go_ret
        exact ⟨ret_string (HN.out.trans rfl).symm, HB.out⟩

set_option maxHeartbeats 4000000 in
theorem implAskPut_any (name doc given : ByteArray) (w : World) (h1 : name.size ≤ 1048576) (h2 : doc.size ≤ 1048576) (h3 : given.size ≤ 1048576) (ht : Tab w) :
    Calls Tryd.prog 12 #[.string name, .string doc, .string given] w (TextIs name doc given w) := by
  have hm : name.size ≤ maxLen := by unfold maxLen; omega
  have hdi : decide ((1500 : Int) < (doc.size : Int)) = !decide (doc.size ≤ 1500) := by rw [Bool.eq_iff_iff]; simp; omega
  have hgi : decide ((2000 : Int) < (given.size : Int)) = !decide (given.size ≤ 2000) := by rw [Bool.eq_iff_iff]; simp; omega
  have HC : Hid (∀ (s : ByteArray) (W : World), s.size ≤ 1048576 → Below w.heap.size w W → Calls Tryd.prog 30 #[.int .i64 (s.size : Int)] W fun e w' => e = .returned (.string (decT s)) ∧ Hid (Below w.heap.size w w')) := fun s W h hb => (Tryd.strconv_Itoa (s.size : Int) (by omega) (by omega) W (ht.on hb)).mono fun e w' ⟨r1, kk, os, r2⟩ => ⟨r1, by rw [r2]; exact hb.trans (Lib.below_grow _ W hb.size kk os)⟩
  clear ht
  cases hok : askOk name doc given
  · have HN : Hid (askB name doc given = ⟨#[]⟩) := askB_no hok
    have HOK : Hid (askOk name doc given = false) := hok
    clear hok
    cases hn : name.toList.isEmpty <;> cases hb : nameB name.data.toList <;> by_cases hd : doc.size ≤ 1500 <;> by_cases hg : given.size ≤ 2000
    all_goals first
      | (exfalso; have h := HOK.out; unfold askOk at h; rw [hn, hb, decide_eq_true hd, decide_eq_true hg] at h; exact absurd h (by decide))
      | skip
    all_goals
      first | rw [decide_eq_true hd] at hdi | rw [decide_eq_false hd] at hdi
      first | rw [decide_eq_true hg] at hgi | rw [decide_eq_false hg] at hgi
      simp only [Bool.not_true, Bool.not_false] at hdi hgi
      clear HOK hd hg
      go_enter Tryd.func12, Tryd.ntmps12
      go_wp2_with (go_at_call 29; refine (isNameOrNone_any _ _ hm).mono ?_; rintro e w' ⟨rfl, rfl⟩; try rw [hn, hb])
      go_ret
      exact ⟨ret_string HN.out.symm, Below.refl _ _⟩
  · have HN : Hid (askB name doc given = askT name doc given) := askB_yes hok
    have hx := decT_size h2
    have hy := decT_size h3
    have hd : doc.size ≤ 1500 := by unfold askOk at hok; simp at hok; omega
    have hg : given.size ≤ 2000 := by unfold askOk at hok; simp at hok; omega
    have hor : (name.toList.isEmpty || nameB name.data.toList) = true := by unfold askOk at hok; simp only [Bool.and_eq_true] at hok; exact hok.1.1
    rw [decide_eq_true hd] at hdi
    rw [decide_eq_true hg] at hgi
    simp only [Bool.not_true] at hdi hgi
    cases hn : name.toList.isEmpty <;> cases hb : nameB name.data.toList
    all_goals first
      | (exfalso; rw [hn, hb] at hor; exact absurd hor (by decide))
      | skip
    all_goals
      clear hor hok
      go_enter Tryd.func12, Tryd.ntmps12
      go_wp2_with (first | (go_at_call 29; refine (isNameOrNone_any _ _ hm).mono ?_; rintro e w' ⟨rfl, rfl⟩; try rw [hn, hb]) | (go_at_call 30; refine (Hid.out HC _ _ (by omega) (by first | exact Hid.out HB | exact Below.refl _ _)).mono ?_; rintro e w1 ⟨rfl, HB⟩))
      all_goals
        go_ret
        exact ⟨ret_string (HN.out.trans rfl).symm, HB.out⟩


end Go.Proofs.YtegnalfkdponhaaDoor
