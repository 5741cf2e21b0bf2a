
/-
  DERIVED. DOCUMENTS THAT ARE SAVED: the walks of impl.SavedGet, and of laws.FnExactSavedGet.
-/
import Derived.Test.YtkogdlncjciboaaDoorSvA
import Derived.Deep.RegionWith
import Derived.BigQuiet
namespace Go.Proofs.YtkogdlncjciboaaDoor
open Go.RowKit
set_option linter.unusedVariables false
set_option linter.unusedSimpArgs false

set_option maxHeartbeats 1000000 in
theorem hitG_any (sum t : ByteArray) (kb : Nat) (w : World) (hc : w.cell? ⟨kb, 0, none⟩ = some (.string sum)) (hk : KTab w) (ht : t.size ≤ 67108864) :
    Calls Tryd.prog 30 #[.string t, .pointer (some ⟨kb, 0, none⟩)] w fun e w' => e = .returned (.bool (hitS sum t)) ∧ Below w.heap.size w w' := by
  have HK : Hid (∀ W, W.heap = w.heap → KTab W) := fun W hW i hi => by rw [← hk i hi]; unfold World.cell?; rw [hW]
  clear hk
  go_enter Tryd.func30, Tryd.ntmps30
  go_wp2_with fail
  go_region_with (go_at_call 8; (refine (implDocSum_any t w.drew (HK.out _ rfl) (by omega)).mono ?_; rintro e w1 ⟨rfl, hb1⟩; have c1 := cell_on (W := w.drew) hb1 (p := ⟨kb, 0, none⟩) hc; have HB1 : Hid _ := hb1; clear hb1))
  all_goals
    go_wp2_with fail
    go_ret
    exact ⟨rfl, ⟨HB1.out.os, HB1.out.tape, HB1.out.output, HB1.out.size, HB1.out.block⟩⟩

set_option maxHeartbeats 1000000 in
theorem indexS_any (l : List ByteArray) (v : Value) (sum : ByteArray) (kb : Nat) (w : World) (hrow : StrRow w 0 l v) (hc : w.cell? ⟨kb, 0, none⟩ = some (.string sum)) (hk : KTab w) (hl : ∀ t ∈ l, t.size ≤ 67108864) :
    Calls Tryd.prog 29 #[v, .func (.func 30) #[] #[.pointer (some ⟨kb, 0, none⟩)]] w fun e w' =>
      ∃ r : Int, e = .returned (.int .i64 r) ∧ ((r = -1 ∧ getS l sum = none) ∨ ∃ (m : Nat) (h : m < l.length), r = (m : Int) ∧ getS l sum = some l[m]) ∧ Below w.heap.size w w' := by
  obtain ⟨a1, c1, rfl, _, hrest⟩ := hrow.len
  have hlen : (l.length : Int) ≤ 140737488351232 := by omega
  have HZ : Hid (∀ t ∈ l, t.size ≤ 67108864) := hl
  have HC : Hid (w.cell? ⟨kb, 0, none⟩ = some (.string sum)) := hc
  have HK : Hid (KTab w) := hk
  clear hrow hl hc hk
  go_enter Tryd.func29, Tryd.ntmps29
  go_wp2_with fail
  go_loopw [8] (fun i wr => ∃ j : Nat, j ≤ l.length ∧ i = .int .i64 j ∧ Hid (getS (l.take j) sum = none) ∧ Hid (Below w.heap.size w wr)) (fun i _ => l.length - (intOf i).toNat)
  case atStart => exact ⟨0, Nat.zero_le _, rfl, rfl, Below.refl _ _⟩
  case round =>
    obtain ⟨j, hj, rfl, HG, HB⟩ := hrel
    by_cases hlt : j < l.length
    · have hlti : (j : Int) < (l.length : Int) := by omega
      obtain ⟨b, off, rfl, _, hcs⟩ := hrest (List.ne_nil_of_length_pos (by omega))
      obtain ⟨x0, _⟩ := hcs j hlt
      have cj := (Keeps.of_below HB.out (Nat.le_refl _) 0).cell (p := ⟨b, off + j, none⟩) (Nat.zero_le _) x0
      have HCr : Hid (wr.cell? ⟨kb, 0, none⟩ = some (.string sum)) := (Keeps.of_below HB.out (Nat.le_refl _) 0).cell (p := ⟨kb, 0, none⟩) (Nat.zero_le _) HC.out
      have hz := HZ.out l[j] (List.getElem_mem hlt)
      obtain ⟨t, ht⟩ : ∃ t, l[j] = t := ⟨_, rfl⟩
      rw [ht] at cj hz
      have HT : Hid (l[j] = t) := ht
      clear hcs hrest x0 ht
      go_wp2_with fail
      refine (hitG_any sum t kb wr HCr.out (HK.out.on HB.out) hz).mono ?_
      rintro e w1 ⟨rfl, hb1⟩
      have HB1 : Hid (Below w.heap.size w w1) := HB.out.trans (hb1.mono HB.out.size)
      clear hb1 HB
      cases he : hitS sum t
      · have HN : Hid (getS (l.take (j + 1)) sum = none) := getS_snoc hlt HG.out (by rw [HT.out]; exact he)
        clear he HG
        go_wp2_with fail
        exact ⟨⟨j + 1, by omega, by go_num, HN, HB1⟩, by simp [intOf]; omega⟩
      · have HF : Hid (getS l sum = some l[j]) := getS_at hlt HG.out (by rw [HT.out]; exact he)
        clear he HG
        go_wp2_with fail
        go_ret
        exact ⟨_, rfl, Or.inr ⟨j, hlt, rfl, HF.out⟩, HB1.out⟩
    · obtain rfl : j = l.length := by omega
      have HF : Hid (getS l sum = none) := by have h := HG.out; rw [List.take_length] at h; exact h
      clear HG hrest
      go_wp2_with fail
      go_ret
      exact ⟨_, rfl, Or.inl ⟨rfl, HF.out⟩, HB.out⟩

set_option maxHeartbeats 1000000 in
theorem implSavedGet_any (l : List ByteArray) (v : Value) (sum : ByteArray) (w : World) (hrow : StrRow w 0 l v) (hk : KTab w) (hl : ∀ t ∈ l, t.size ≤ 67108864) :
    Calls Tryd.prog 13 #[.agg #[v], .string sum] w fun e w' => e = .returned (toldS (getS l sum)) ∧ Below w.heap.size w w' := by
  obtain ⟨a1, c1, rfl, _, hrest⟩ := hrow.len
  have HR : Hid (∀ W, Keeps 0 w W → StrRow W 0 l (.slice a1 l.length c1)) := fun W h => hrow.keeps h
  have hlen : (l.length : Int) ≤ 140737488351232 := by omega
  have HZ : Hid (∀ t ∈ l, t.size ≤ 67108864) := hl
  have HK : Hid (KTab w) := hk
  clear hrow hk hl
  go_enter Tryd.func13, Tryd.ntmps13
  go_wp2_with fail
  have HB0 : Below w.heap.size w ((w.alloc (.cells #[.slice a1 l.length c1] 33)).alloc (.cells #[.string sum] 9)) := ((Below.refl _ _).alloc (Nat.le_refl _) _).alloc (by simp) _
  refine (indexS_any l _ sum (w.heap.size + 1) _ (HR.out _ (Keeps.of_below HB0 (Nat.le_refl _) 0)) (by simp) (HK.out.on HB0) HZ.out).mono ?_
  rintro e w1 ⟨r, rfl, hr, hb1⟩
  have HB1 : Hid (Below w.heap.size w w1) := HB0.trans (hb1.mono (by simp; omega))
  have o0 : Owns w1 w.heap.size #[.slice a1 l.length c1] 33 := ((Owns.made w _ _).below ((Below.refl _ _).alloc (Nat.le_refl _) _) (by simp)).below hb1 (by simp; omega)
  have p0 := o0.cell 0
  simp at p0
  clear hb1 o0 HB0
  rcases hr with ⟨rfl, hg⟩ | ⟨m, hm, rfl, hg⟩
  · have HG : Hid (getS l sum = none) := hg
    clear hg hrest
    go_wp2_with fail
    exact bodyPost_ret (v := toldS none) (by simp [results, Tryd.results13, go_sem, toldS]; rfl) rfl ⟨by rw [HG.out], HB1.out⟩
  · have HG : Hid (getS l sum = some l[m]) := hg
    obtain ⟨b, off, rfl, _, hcs⟩ := hrest (List.ne_nil_of_length_pos (by omega))
    obtain ⟨x0, _⟩ := hcs m hm
    have cm := (Keeps.of_below HB1.out (Nat.le_refl _) 0).cell (p := ⟨b, off + m, none⟩) (Nat.zero_le _) x0
    have hmi : (m : Int) < (l.length : Int) := by omega
    have hm0 : ¬ ((m : Int) < 0) := by omega
    clear hg hrest hcs x0
    go_wp2_with fail
    exact bodyPost_ret (v := toldS (some l[m])) (by simp [results, Tryd.results13, go_sem, toldS]) rfl ⟨by rw [HG.out], HB1.out⟩

end Go.Proofs.YtkogdlncjciboaaDoor
