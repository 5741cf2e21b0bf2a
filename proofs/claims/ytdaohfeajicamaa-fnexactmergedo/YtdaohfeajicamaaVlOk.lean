
/-
  DERIVED. THE WALKS OF spec.l1Once, spec.l1Ok.
-/
import Derived.Test.YtdaohfeajicamaaVlPlain
namespace Go.Proofs.Ytdaohfeajicamaa
open Go.RowKit
set_option linter.unusedVariables false
set_option linter.unusedSimpArgs false

set_option maxHeartbeats 1000000 in
theorem l1Once_any (l : List ByteArray) (v : Value) (w : World) (hrow : StrRow w 0 l v) :
    Calls Try.prog 70 #[v] w fun e w' => e = .returned (.bool (onceB [] l)) ∧ Below w.heap.size w w' := by
  obtain ⟨a, cap, rfl, hw, hrest⟩ := hrow.len
  have hlen : (l.length : Int) ≤ 140737488351232 := by omega
  clear hrow
  go_enter Try.func70, Try.ntmps70
  go_wp2_with fail
  go_loopw [3, 4] (fun i _ wr => ∃ j : Nat, j ≤ l.length ∧ i = .int .i64 j ∧ Hid (onceB [] l = onceB (l.take j) (l.drop j)) ∧ Below w.heap.size w wr) (fun i _ _ => l.length - (intOf i).toNat)
  case atStart => exact ⟨0, Nat.zero_le _, rfl, onceB_start l, Below.refl _ _⟩
  case round =>
    obtain ⟨j, hj, rfl, HO, hb⟩ := hrel
    by_cases hlt : j < l.length
    · obtain ⟨b, off, rfl, _, hcs⟩ := hrest (List.ne_nil_of_length_pos (by omega))
      have HD : Hid (onceB [] l = (nameB l[j].data.toList && !hasB (l.take j) l[j] && onceB (l.take (j + 1)) (l.drop (j + 1)))) := HO.out.trans (onceB_drop hlt)
      obtain ⟨c0, hs⟩ := hcs j hlt
      have c1 : wr.cell? ⟨b, off + j, none⟩ = some (.string l[j]) := (Keeps.of_below hb (Nat.le_refl _) 0).cell (Nat.zero_le _) c0
      have HC : Hid (∀ W, Below w.heap.size w W → ∀ (i : Nat) (h : i < l.length), W.cell? ⟨b, off + i, none⟩ = some (.string l[i])) := fun W hW i h => (Keeps.of_below hW (Nat.le_refl _) 0).cell (Nat.zero_le _) (hcs i h).1
      clear c0 hcs hrest HO
      cases hnm : nameB l[j].data.toList
      · have hfin : Hid (onceB [] l = false) := by show _ = _; rw [HD.out, hnm]; rfl
        clear HD
        go_wp2_with (go_at_call 89; refine (l1Name_any _ _ (by unfold maxLen; omega)).mono ?_; rintro e w1 ⟨rfl, rfl⟩)
        go_ret
        exact ⟨ret_bool hfin.out.symm, hb⟩
      · rw [hnm, Bool.true_and] at HD
        go_wp2_with (go_at_call 89; refine (l1Name_any _ _ (by unfold maxLen; omega)).mono ?_; rintro e w1 ⟨rfl, rfl⟩)
        go_loopw [4] (fun q wq => ∃ m : Nat, m ≤ j ∧ q = .int .i64 m ∧ Hid (hasB (l.take m) l[j] = false) ∧ Below w.heap.size w wq) (fun q _ => j - (intOf q).toNat)
        case atStart => exact ⟨0, Nat.zero_le _, rfl, rfl, hb⟩
        case round =>
          obtain ⟨m, hm, rfl, HH, hb2⟩ := hrel
          by_cases hlt2 : m < j
          · have hml : m < l.length := by omega
            have d0 : wr.cell? ⟨b, off + m, none⟩ = some (.string l[m]) := HC.out wr hb2 m hml
            have d1 : wr.cell? ⟨b, off + j, none⟩ = some (.string l[j]) := HC.out wr hb2 j hlt
            cases he : (l[m].toList == l[j].toList)
            · have HN : Hid (hasB (l.take (m + 1)) l[j] = false) := by show _ = _; rw [hasB_snoc hml, HH.out, he]; rfl
              clear HH HC HD
              go_wp2_with fail
              go_region_with (fail)
              all_goals
                go_wp2_with fail
                exact ⟨⟨m + 1, by omega, by go_num, HN, hb2.drew⟩, by simp [intOf]; omega⟩
            · have hfin : Hid (onceB [] l = false) := by show _ = _; rw [HD.out, hasB_at hml hlt2 he]; rfl
              clear HH HC HD
              go_wp2_with fail
              go_region_with (fail)
              all_goals
                go_wp2_with fail
                go_ret
                exact ⟨ret_bool hfin.out.symm, hb2.drew⟩
          · obtain rfl : m = j := by omega
            have HN : Hid (onceB [] l = onceB (l.take (m + 1)) (l.drop (m + 1))) := by show _ = _; rw [HD.out, HH.out]; rfl
            clear HH HC HD
            go_wp2_with fail
            exact ⟨⟨m + 1, by omega, by go_num, HN, hb2⟩, by simp [intOf]; omega⟩
    · obtain rfl : j = l.length := by omega
      have hfin : Hid (onceB [] l = true) := HO.out.trans (onceB_end l)
      clear HO
      go_wp2_with fail
      go_ret
      exact ⟨ret_bool hfin.out.symm, hb⟩

def OkVl (words : Bool) (d : Nat) : Prop := ∀ (k : Nat) (t : Vl) (vl vn : Value) (w : World), VlR w 0 k t [.int .i64 t.kind, .int .i64 t.num, .string t.text, vl, vn] →
  Calls Try.prog 46 #[.agg #[.int .i64 t.kind, .int .i64 t.num, .string t.text, vl, vn], .int .i64 (d : Int), .bool words] w fun e w' => e = .returned (.bool (okB words d t)) ∧ Below w.heap.size w w'

set_option maxHeartbeats 1000000 in
theorem l1Ok_zero (words : Bool) : OkVl words 0 := by
  intro k t vl vn w ht
  go_enter Try.func46, Try.ntmps46
  go_wp2_with fail
  go_ret
  exact ⟨rfl, (Below.refl _ _).alloc (Nat.le_refl _) _⟩

set_option maxHeartbeats 2000000 in
theorem l1Ok_step (words : Bool) (d : Nat) (hd : d ≤ 10) (ih : OkVl words d) : OkVl words (d + 1) := by
  intro k t vl vn w ht
  cases k with
  | zero => exact ht.elim
  | succ k =>
  obtain ⟨vl', vn', hv, _, _, htx, hrow, hnames⟩ := ht
  simp only [List.cons.injEq, true_and, and_true] at hv
  obtain ⟨rfl, rfl⟩ := hv
  obtain ⟨a, cap, rfl, hw, hrest⟩ := hrow.len
  obtain ⟨a', cap', rfl, hw', _⟩ := hnames.len
  have hlen : (t.list.length : Int) ≤ 140737488351232 := by omega
  have HN : Hid (∀ W, Keeps 0 w W → StrRow W 0 t.names (.slice a' t.names.length cap')) := fun W h => hnames.keeps h
  have HO : Hid (okB words (d + 1) t = (plainB t.kind t.num t.text t.list.length t.names.length && (words || decide (t.kind ≤ 5)) && onceB [] t.names && t.list.all (okB words d))) := rfl
  rw [show ((d + 1 : Nat) : Int) = (d : Int) + 1 by omega]
  have hd1 : decide ((d : Int) + 1 < 1) = false := by simp; omega
  have hdd : (d : Int) ≤ 10 := by omega
  clear hrow hnames
  cases hp : plainB t.kind t.num t.text t.list.length t.names.length
  · have hfin : Hid (okB words (d + 1) t = false) := by show _ = _; rw [HO.out, hp]; rfl
    clear HO HN hrest
    go_enter Try.func46, Try.ntmps46
    go_wp2_with fail
    refine (l1Plain_any _ _ _ _ _ _ _ _ _ _ htx (by omega) (by omega)).mono ?_
    rintro e w1 ⟨rfl, hb1⟩
    rw [hp]
    have HB : Hid (Below w.heap.size w w1) := ((Below.refl _ _).alloc (Nat.le_refl _) _).trans (hb1.mono (by simp))
    clear hb1
    go_wp2_with fail
    go_ret
    exact ⟨ret_bool hfin.out.symm, HB.out⟩
  cases hwd : (words || decide (t.kind ≤ 5))
  · have hfin : Hid (okB words (d + 1) t = false) := by show _ = _; rw [HO.out, hp, hwd]; rfl
    obtain ⟨rfl, hk5⟩ : words = false ∧ ¬ t.kind ≤ 5 := by simpa using hwd
    clear HO HN hrest hwd
    go_enter Try.func46, Try.ntmps46
    go_wp2_with fail
    refine (l1Plain_any _ _ _ _ _ _ _ _ _ _ htx (by omega) (by omega)).mono ?_
    rintro e w1 ⟨rfl, hb1⟩
    rw [hp]
    obtain ⟨hc, hf⟩ := bcell hb1
    have HB : Hid (Below w.heap.size w w1) := ((Below.refl _ _).alloc (Nat.le_refl _) _).trans (hb1.mono (by simp))
    clear hb1
    go_wp2_with fail
    go_ret
    exact ⟨ret_bool hfin.out.symm, HB.out⟩
  have hwk : words = true ∨ words = false ∧ t.kind ≤ 5 := by cases words <;> simp_all
  have HO2 : Hid (okB words (d + 1) t = (onceB [] t.names && t.list.all (okB words d))) := by show _ = _; rw [HO.out, hp, hwd]; rfl
  clear HO hwd
  cases ho : onceB [] t.names
  · have hfin : Hid (okB words (d + 1) t = false) := by show _ = _; rw [HO2.out, ho]; rfl
    clear HO2 hrest
    rcases hwk with rfl | ⟨rfl, hk5⟩
    all_goals
      go_enter Try.func46, Try.ntmps46
      go_wp2_with fail
      refine (l1Plain_any _ _ _ _ _ _ _ _ _ _ htx (by omega) (by omega)).mono ?_
      rintro e w1 ⟨rfl, hb1⟩
      rw [hp]
      obtain ⟨hc, hf⟩ := bcell hb1
      have HB : Hid (Below w.heap.size w w1) := ((Below.refl _ _).alloc (Nat.le_refl _) _).trans (hb1.mono (by simp))
      clear hb1
      go_wp2_with fail
      refine (l1Once_any t.names _ _ (HN.out _ (Keeps.of_below HB.out (Nat.le_refl _) _))).mono ?_
      rintro e w2 ⟨rfl, hb2⟩
      rw [ho]
      have HB2 : Hid (Below w.heap.size w w2) := HB.out.trans (hb2.mono HB.out.size)
      clear hb2 hc hf
      go_wp2_with fail
      go_ret
      exact ⟨ret_bool hfin.out.symm, HB2.out⟩
  · have HO3 : Hid (okB words (d + 1) t = t.list.all (okB words d)) := by show _ = _; rw [HO2.out, ho]; rfl
    clear HO2
    rcases hwk with rfl | ⟨rfl, hk5⟩
    · go_enter Try.func46, Try.ntmps46
      go_wp2_with fail
      refine (l1Plain_any _ _ _ _ _ _ _ _ _ _ htx (by omega) (by omega)).mono ?_
      rintro e w1 ⟨rfl, hb1⟩
      rw [hp]
      obtain ⟨hc, hf⟩ := bcell hb1
      have HB : Hid (Below w.heap.size w w1) := ((Below.refl _ _).alloc (Nat.le_refl _) _).trans (hb1.mono (by simp))
      have hz : w.heap.size < w1.heap.size := by have := hb1.size; simp at this; omega
      clear hb1
      go_wp2_with fail
      refine (l1Once_any t.names _ _ (HN.out _ (Keeps.of_below HB.out (Nat.le_refl _) _))).mono ?_
      rintro e w2 ⟨rfl, hb2⟩
      rw [ho]
      have HB2 : Hid (Below w.heap.size w w2) := HB.out.trans (hb2.mono HB.out.size)
      have b3 : w2.cell? ⟨w.heap.size, 3, none⟩ = some (.slice a t.list.length cap) := by
        rw [hb2.cell (p := ⟨w.heap.size, 3, none⟩) hz, hc w.heap.size 3 (by simp)]; simp
      have hz2 : w.heap.size < w2.heap.size := by have := hb2.size; omega
      clear hb2 hc hf hz HN
      go_wp2_with fail
      go_loopw [7] (fun i wr => ∃ j : Nat, j ≤ t.list.length ∧ i = .int .i64 j ∧ Hid ((t.list.take j).all (okB true d) = true) ∧ Below w2.heap.size w2 wr) (fun i _ => t.list.length - (intOf i).toNat)
      case atStart => exact ⟨0, Nat.zero_le _, rfl, rfl, Below.refl _ _⟩
      case round =>
        obtain ⟨j, hj, rfl, HA, hb⟩ := hrel
        have hbw : Below w.heap.size w wr := HB2.out.trans (hb.mono HB2.out.size)
        have b3' : wr.cell? ⟨w.heap.size, 3, none⟩ = some (.slice a t.list.length cap) := cell_on hb b3
        by_cases hlt : j < t.list.length
        · obtain ⟨b, off, rfl, _, hcs⟩ := hrest (List.ne_nil_of_length_pos (by omega))
          obtain ⟨cs, hl3, hc, hR⟩ := hcs j hlt
          obtain ⟨p, n, p', n', rfl⟩ := hR.cells
          have hk : Keeps 0 w wr := Keeps.of_below hbw (Nat.le_refl _) _
          obtain ⟨c0, c1, c2, c3, c4⟩ := (hc.keeps hk (Nat.zero_le _)).five
          have HR : Hid (VlR wr 0 k t.list[j] [.int .i64 t.list[j].kind, .int .i64 t.list[j].num, .string t.list[j].text, .slice p t.list[j].list.length n, .slice p' t.list[j].names.length n']) := VlR.keeps hk k _ _ hR
          have HS : Hid ((t.list.take (j + 1)).all (okB true d) = okB true d t.list[j]) := by show _ = _; rw [all_snoc hlt, HA.out, Bool.true_and]
          clear hc hR hcs hrest hk HA b3
          go_wp2_with fail
          refine (ih _ _ _ _ _ HR.out).mono ?_
          rintro e w3 ⟨rfl, hb3⟩
          have HB3 : Hid (Below w2.heap.size w2 w3) := hb.trans (hb3.mono hb.size)
          have HB4 : Hid (Below w.heap.size w w3) := hbw.trans (hb3.mono hbw.size)
          clear hb3 c0 c1 c2 c3 c4 b3' HR
          cases hx : okB true d t.list[j]
          · have hfin := HO3.out.trans (all_take_false (HS.out.trans hx))
            have hfin : Hid _ := hfin
            clear HS HO3
            go_wp2_with fail
            go_ret
            exact ⟨ret_bool hfin.out.symm, HB4.out⟩
          · have HN : Hid ((t.list.take (j + 1)).all (okB true d) = true) := HS.out.trans hx
            clear HS HO3
            go_wp2_with fail
            exact ⟨⟨j + 1, by omega, by go_num, HN, HB3.out⟩, by simp [intOf]; omega⟩
        · obtain rfl : j = t.list.length := by omega
          have hfin : Hid (okB true (d + 1) t = true) := by
            have h1 := HA.out
            rw [List.take_of_length_le (Nat.le_refl _)] at h1
            exact HO3.out.trans h1
          clear HA HO3
          go_wp2_with fail
          go_ret
          exact ⟨ret_bool hfin.out.symm, hbw⟩
    · go_enter Try.func46, Try.ntmps46
      go_wp2_with fail
      refine (l1Plain_any _ _ _ _ _ _ _ _ _ _ htx (by omega) (by omega)).mono ?_
      rintro e w1 ⟨rfl, hb1⟩
      rw [hp]
      obtain ⟨hc, hf⟩ := bcell hb1
      have HB : Hid (Below w.heap.size w w1) := ((Below.refl _ _).alloc (Nat.le_refl _) _).trans (hb1.mono (by simp))
      have hz : w.heap.size < w1.heap.size := by have := hb1.size; simp at this; omega
      clear hb1
      go_wp2_with fail
      refine (l1Once_any t.names _ _ (HN.out _ (Keeps.of_below HB.out (Nat.le_refl _) _))).mono ?_
      rintro e w2 ⟨rfl, hb2⟩
      rw [ho]
      have HB2 : Hid (Below w.heap.size w w2) := HB.out.trans (hb2.mono HB.out.size)
      have b3 : w2.cell? ⟨w.heap.size, 3, none⟩ = some (.slice a t.list.length cap) := by
        rw [hb2.cell (p := ⟨w.heap.size, 3, none⟩) hz, hc w.heap.size 3 (by simp)]; simp
      have hz2 : w.heap.size < w2.heap.size := by have := hb2.size; omega
      clear hb2 hc hf hz HN
      go_wp2_with fail
      go_loopw [7] (fun i wr => ∃ j : Nat, j ≤ t.list.length ∧ i = .int .i64 j ∧ Hid ((t.list.take j).all (okB false d) = true) ∧ Below w2.heap.size w2 wr) (fun i _ => t.list.length - (intOf i).toNat)
      case atStart => exact ⟨0, Nat.zero_le _, rfl, rfl, Below.refl _ _⟩
      case round =>
        obtain ⟨j, hj, rfl, HA, hb⟩ := hrel
        have hbw : Below w.heap.size w wr := HB2.out.trans (hb.mono HB2.out.size)
        have b3' : wr.cell? ⟨w.heap.size, 3, none⟩ = some (.slice a t.list.length cap) := cell_on hb b3
        by_cases hlt : j < t.list.length
        · obtain ⟨b, off, rfl, _, hcs⟩ := hrest (List.ne_nil_of_length_pos (by omega))
          obtain ⟨cs, hl3, hc, hR⟩ := hcs j hlt
          obtain ⟨p, n, p', n', rfl⟩ := hR.cells
          have hk : Keeps 0 w wr := Keeps.of_below hbw (Nat.le_refl _) _
          obtain ⟨c0, c1, c2, c3, c4⟩ := (hc.keeps hk (Nat.zero_le _)).five
          have HR : Hid (VlR wr 0 k t.list[j] [.int .i64 t.list[j].kind, .int .i64 t.list[j].num, .string t.list[j].text, .slice p t.list[j].list.length n, .slice p' t.list[j].names.length n']) := VlR.keeps hk k _ _ hR
          have HS : Hid ((t.list.take (j + 1)).all (okB false d) = okB false d t.list[j]) := by show _ = _; rw [all_snoc hlt, HA.out, Bool.true_and]
          clear hc hR hcs hrest hk HA b3
          go_wp2_with fail
          refine (ih _ _ _ _ _ HR.out).mono ?_
          rintro e w3 ⟨rfl, hb3⟩
          have HB3 : Hid (Below w2.heap.size w2 w3) := hb.trans (hb3.mono hb.size)
          have HB4 : Hid (Below w.heap.size w w3) := hbw.trans (hb3.mono hbw.size)
          clear hb3 c0 c1 c2 c3 c4 b3' HR
          cases hx : okB false d t.list[j]
          · have hfin := HO3.out.trans (all_take_false (HS.out.trans hx))
            have hfin : Hid _ := hfin
            clear HS HO3
            go_wp2_with fail
            go_ret
            exact ⟨ret_bool hfin.out.symm, HB4.out⟩
          · have HN : Hid ((t.list.take (j + 1)).all (okB false d) = true) := HS.out.trans hx
            clear HS HO3
            go_wp2_with fail
            exact ⟨⟨j + 1, by omega, by go_num, HN, HB3.out⟩, by simp [intOf]; omega⟩
        · obtain rfl : j = t.list.length := by omega
          have hfin : Hid (okB false (d + 1) t = true) := by
            have h1 := HA.out
            rw [List.take_of_length_le (Nat.le_refl _)] at h1
            exact HO3.out.trans h1
          clear HA HO3
          go_wp2_with fail
          go_ret
          exact ⟨ret_bool hfin.out.symm, hbw⟩

theorem l1Ok_all (words : Bool) : ∀ d : Nat, d ≤ 11 → OkVl words d
  | 0, _ => l1Ok_zero words
  | d + 1, h => l1Ok_step words d (by omega) (l1Ok_all words d (by omega))

end Go.Proofs.Ytdaohfeajicamaa
