
/-
  DERIVED. A RING BY KEY: the walks of its at and put, of slices.IndexFunc over its spots, of impl.ringOf and impl.CacheOk.
-/
import Derived.Test.YtkogdlncjciboaaCcA
import Derived.Laws.AppendOwn
import Derived.Deep.Cut
import Derived.Deep.AppendLies
import Derived.BigRegion
import Derived.Deep.RegionLaw
namespace Go.Proofs.Ytkogdlncjciboaa
open Go.RowKit
set_option linter.unusedVariables false
set_option linter.unusedSimpArgs false

theorem info_spot : ∃ i, Try.prog.info? 45 = some i ∧ i.zero = some (.agg #[.string ⟨#[]⟩, .string ⟨#[]⟩]) ∧ i.size = 2 ∧ i.bytes = 32 := by
  have h : (Try.prog.info? 45).map (fun i => (i.zero, i.size, i.bytes)) = some (some (.agg #[.string ⟨#[]⟩, .string ⟨#[]⟩]), 2, 32) := by kernel_rfl
  obtain ⟨i, h1, h2⟩ := Option.map_eq_some_iff.1 h
  simp only [Prod.mk.injEq] at h2
  exact ⟨i, h1, h2.1, h2.2.1, h2.2.2⟩

/-- The cells of the first j keys and answers. -/
def spC (k a : List ByteArray) (j : Nat) : List Value := (k.take j).zip (a.take j) |>.flatMap fun x => [.string x.1, .string x.2]
theorem spC_snoc {k a : List ByteArray} {j : Nat} (h : j < k.length) (h' : j < a.length) : spC k a (j + 1) = spC k a j ++ [.string k[j], .string a[j]] := by
  unfold spC
  rw [List.take_succ_eq_append_getElem h, List.take_succ_eq_append_getElem h', List.zip_append (by simp; omega)]
  simp
theorem spC_length {k a : List ByteArray} {j : Nat} (h : j ≤ k.length) (h' : j ≤ a.length) : (spC k a j).length = 2 * j := by
  induction j with
  | zero => simp [spC]
  | succ j ih => rw [spC_snoc (by omega) (by omega), List.length_append, ih (by omega) (by omega)]; simp; omega
theorem spC_at {k a : List ByteArray} {j m : Nat} (hm : m < j) (h : j ≤ k.length) (h' : j ≤ a.length) : (spC k a j)[2 * m]? = some (.string (k[m]'(by omega))) ∧ (spC k a j)[2 * m + 1]? = some (.string (a[m]'(by omega))) := by
  induction j with
  | zero => omega
  | succ j ih =>
    rw [spC_snoc (by omega) (by omega)]
    have hl := spC_length (k := k) (a := a) (j := j) (by omega) (by omega)
    rcases Nat.lt_or_ge m j with h1 | h1
    · rw [List.getElem?_append_left (by omega), List.getElem?_append_left (by omega)]
      exact ih h1 (by omega) (by omega)
    · obtain rfl : m = j := by omega
      rw [List.getElem?_append_right (by omega), List.getElem?_append_right (by omega), hl]
      simp [show 2 * m + 1 - 2 * m = 1 by omega]

/-- A ring in block rb, its spots in memory from rb on, that holds the first j keys and answers. -/
def RgM (w : World) (rb : Nat) (k a : List ByteArray) (j : Nat) : Prop := ∃ v, Owns w rb #[v, .int .i64 4, .int .i64 0] 39 ∧ w.ownsRow (rb + 1) 45 2 v j (spC k a j)

theorem spotIs_any (key ki it : ByteArray) (kb : Nat) (w : World) (hc : w.cell? ⟨kb, 0, none⟩ = some (.string key)) (hz : kb < w.heap.size) :
    Calls Try.prog 16 #[.agg #[.string ki, .string it], .pointer (some ⟨kb, 0, none⟩)] w fun e w' => e = .returned (.bool (ki.toList == key.toList)) ∧ Below w.heap.size w w' := by
  have HZ : Hid (kb < w.heap.size) := hz
  have hc2 : (w.alloc (.cells #[.string ki, .string it] 45)).cell? ⟨kb, 0, none⟩ = some (.string key) := (World.cell?_alloc_lt _ _ _ hz).trans hc
  go_enter Try.func16, Try.ntmps16
  go_wp2_with fail
  go_ret
  exact ⟨rfl, (Below.refl _ _).alloc (Nat.le_refl _) _⟩

set_option maxHeartbeats 1000000 in
theorem spotIndex_any (k a : List ByteArray) (j : Nat) (ao : Option Addr) (g cap kb : Nat) (key : ByteArray) (w : World) (hjk : j ≤ k.length) (hja : j ≤ a.length) (hj : j ≤ 4) (hao : 0 < j → ao = some ⟨g, 0, none⟩)
    (hcs : ∀ (m : Nat) (h : m < j), w.cell? ⟨g, m * 2, none⟩ = some (.string (k[m]'(by omega))) ∧ w.cell? ⟨g, m * 2 + 1, none⟩ = some (.string (a[m]'(by omega)))) (hkc : w.cell? ⟨kb, 0, none⟩ = some (.string key)) (hkz : kb < w.heap.size) :
    Calls Try.prog 15 #[.slice ao j cap, .func (.func 16) #[] #[.pointer (some ⟨kb, 0, none⟩)]] w fun e w' =>
      ∃ r : Int, e = .returned (.int .i64 r) ∧ decide (0 ≤ r) = hasB (k.take j) key ∧ -1 ≤ r ∧ r < (j : Int) ∧ Below w.heap.size w w' := by
  have HC : Hid (∀ (m : Nat) (h : m < j), w.cell? ⟨g, m * 2, none⟩ = some (.string (k[m]'(by omega))) ∧ w.cell? ⟨g, m * 2 + 1, none⟩ = some (.string (a[m]'(by omega)))) := hcs
  have HK : Hid (w.cell? ⟨kb, 0, none⟩ = some (.string key) ∧ kb < w.heap.size) := ⟨hkc, hkz⟩
  have hlen : (j : Int) ≤ 4 := by omega
  clear hcs hkc hkz
  go_enter Try.func15, Try.ntmps15
  go_wp2_with fail
  go_loopw [8] (fun i wr => ∃ m : Nat, m ≤ j ∧ i = .int .i64 m ∧ Hid (hasB (k.take m) key = false) ∧ Hid (Below w.heap.size w wr)) (fun i _ => j - (intOf i).toNat)
  case atStart => exact ⟨0, Nat.zero_le _, rfl, rfl, Below.refl _ _⟩
  case round =>
    obtain ⟨m, hm, rfl, HH, HB⟩ := hrel
    by_cases hlt : m < j
    · have hlti : (m : Int) < (j : Int) := by omega
      obtain rfl := hao (by omega)
      obtain ⟨x0, x1⟩ := HC.out m hlt
      have hk : Keeps 0 w wr := Keeps.of_below HB.out (Nat.le_refl _) _
      have c0 := hk.cell (p := ⟨g, m * 2, none⟩) (Nat.zero_le _) x0
      have c1 := hk.cell (p := ⟨g, m * 2 + 1, none⟩) (Nat.zero_le _) x1
      have HKr : Hid (wr.cell? ⟨kb, 0, none⟩ = some (.string key) ∧ kb < wr.heap.size) := ⟨hk.cell (p := ⟨kb, 0, none⟩) (Nat.zero_le _) HK.out.1, Nat.lt_of_lt_of_le HK.out.2 HB.out.size⟩
      have hmk : m < k.length := by omega
      clear x0 x1 hk HC
      go_wp2_with fail
      refine (spotIs_any key _ _ kb wr HKr.out.1 HKr.out.2).mono ?_
      rintro e w1 ⟨rfl, hb1⟩
      have HB1 : Hid (Below w.heap.size w w1) := HB.out.trans (hb1.mono HB.out.size)
      clear hb1 HKr
      cases he : ((k[m]'hmk).toList == key.toList)
      · have HN : Hid (hasB (k.take (m + 1)) key = false) := by show _ = _; rw [hasB_snoc hmk, HH.out, he]; rfl
        clear HH
        go_wp2_with fail
        exact ⟨⟨m + 1, by omega, by go_num, HN, HB1⟩, by simp [intOf]; omega⟩
      · have HF : Hid (hasB (k.take j) key = true) := hasB_at hmk hlt he
        clear HH
        go_wp2_with fail
        go_ret
        exact ⟨_, rfl, by rw [HF.out]; simp, by omega, by omega, HB1.out⟩
    · obtain rfl : m = j := by omega
      clear HC hao
      go_wp2_with fail
      go_ret
      exact ⟨_, rfl, by rw [HH.out]; rfl, by omega, by omega, HB.out⟩

theorem at_add (b off n : Nat) : (⟨b, off, none⟩ : Addr).add n = ⟨b, off + n, none⟩ := by
  unfold Addr.add
  by_cases h : n = 0 <;> simp [h]

theorem RgM.cells {w : World} {rb j : Nat} {k a : List ByteArray} (h : RgM w rb k a j) (hjk : j ≤ k.length) (hja : j ≤ a.length) :
    ∃ ao g cap, Owns w rb #[.slice ao j cap, .int .i64 4, .int .i64 0] 39 ∧ w.ownsRow (rb + 1) 45 2 (.slice ao j cap) j (spC k a j) ∧ (0 < j → ao = some ⟨g, 0, none⟩) ∧
      (∀ (m : Nat) (h : m < j), w.cell? ⟨g, m * 2, none⟩ = some (.string (k[m]'(by omega))) ∧ w.cell? ⟨g, m * 2 + 1, none⟩ = some (.string (a[m]'(by omega)))) := by
  obtain ⟨v, h1, h2⟩ := h
  rcases h2.2 with ⟨hv, hn⟩ | ⟨g, cap, cur, hv, hx⟩
  · subst hn
    exact ⟨none, 0, 0, by rw [hv] at h1; exact h1, by rw [hv] at h2; exact h2, fun h => by omega, fun m h => by omega⟩
  · subst hv
    refine ⟨some ⟨g, 0, none⟩, g, cap, h1, h2, fun _ => rfl, fun m hm => ?_⟩
    obtain ⟨s1, s2⟩ := spC_at hm hjk hja
    rw [Nat.mul_comm] at s1 s2
    exact ⟨by simpa [at_add] using World.ownsRow.cells h2 rfl _ _ s1, by simpa [at_add] using World.ownsRow.cells h2 rfl _ _ s2⟩

set_option maxHeartbeats 1000000 in
theorem ringAt_any (k a : List ByteArray) (j rb : Nat) (key : ByteArray) (w : World) (hjk : j ≤ k.length) (hja : j ≤ a.length) (hj : j ≤ 4) (h : RgM w rb k a j) :
    Calls Try.prog 13 #[.pointer (some ⟨rb, 0, none⟩), .string key] w fun e w' =>
      ∃ s, e = .returned (.tuple #[.string s, .bool (hasB (k.take j) key)]) ∧ Below w.heap.size w w' := by
  obtain ⟨ao, g, cap, h1, h2, h3, h4⟩ := h.cells hjk hja
  have HC : Hid (∀ W, Keeps 0 w W → ∀ (m : Nat) (h : m < j), W.cell? ⟨g, m * 2, none⟩ = some (.string (k[m]'(by omega))) ∧ W.cell? ⟨g, m * 2 + 1, none⟩ = some (.string (a[m]'(by omega)))) := fun W hk m hm => ⟨hk.cell (p := ⟨g, m * 2, none⟩) (Nat.zero_le _) (h4 m hm).1, hk.cell (p := ⟨g, m * 2 + 1, none⟩) (Nat.zero_le _) (h4 m hm).2⟩
  have HAO : Hid (0 < j → ao = some ⟨g, 0, none⟩) := h3
  have b0 := h1.cell 0
  simp at b0
  have HB0 : Hid (w.cell? ⟨rb, 0, none⟩ = some (.slice ao j cap)) := b0
  have hlt := h1.lt
  have c0 : (w.alloc (.cells #[.string key] 9)).cell? ⟨rb, 0, none⟩ = some (.slice ao j cap) := (World.cell?_alloc_lt _ _ _ hlt).trans b0
  have hj4 : (j : Int) ≤ 4 := by omega
  clear h h1 h2 h3 h4 b0
  go_enter Try.func13, Try.ntmps13
  go_wp2_with fail
  refine (spotIndex_any k a j ao g cap w.heap.size key _ hjk hja hj HAO.out (HC.out _ ((Keeps.refl _ _).alloc _)) (by simp) (by simp)).mono ?_
  rintro e w1 ⟨r, rfl, hr, hr1, hr2, hb1⟩
  have HB1 : Hid (Below w.heap.size w w1) := ((Below.refl _ _).alloc (Nat.le_refl _) _).trans (hb1.mono (by simp))
  have d0 : w1.cell? ⟨rb, 0, none⟩ = some (.slice ao j cap) := (Keeps.of_below HB1.out (Nat.le_refl _) 0).cell (Nat.zero_le _) HB0.out
  have HC1 := HC.out w1 (Keeps.of_below HB1.out (Nat.le_refl _) 0)
  have HR : Hid (decide (0 ≤ r) = hasB (k.take j) key) := hr
  clear hb1 c0 HC HB0 hr
  by_cases hr0 : 0 ≤ r
  · obtain ⟨m, rfl⟩ := Int.eq_ofNat_of_zero_le hr0
    have hmj : m < j := by omega
    obtain rfl := HAO.out (by omega)
    obtain ⟨_, x1⟩ := HC1 m hmj
    clear HC1 HAO
    go_wp2_with fail
    refine bodyPost_ret (v := .tuple #[.string (a[m]'(by omega)), .bool (decide (0 ≤ (m : Int)))]) (by simp [results, Try.results13, go_sem]) rfl ⟨_, by rw [HR.out], HB1.out⟩
  · clear HC1 HAO
    go_wp2_with fail
    refine bodyPost_ret (v := .tuple #[.string ByteArray.empty, .bool (decide (0 ≤ r))]) (by simp [results, Try.results13, go_sem, hr0]; try rfl) rfl ⟨_, by rw [HR.out], HB1.out⟩

theorem own_set {w : World} {b o base n size : Nat} {e : TypeId} {u v : Value} {xs : List Value} (hb : b < base) (h : w.ownsRow base e size v n xs) : (w.setCell ⟨b, o, none⟩ u).ownsRow base e size v n xs := by
  obtain ⟨h1, h2⟩ := h
  refine ⟨h1, ?_⟩
  rcases h2 with h2 | ⟨g, cap, cur, q1, q2, q3, q4⟩
  · exact Or.inl h2
  · exact Or.inr ⟨g, cap, cur, q1, q2, by rw [Below.heap_setCell _ _ _ _ (by show g ≠ b; omega)]; exact q3, q4⟩

theorem own_below {w w' : World} {base n size : Nat} {e : TypeId} {v : Value} {xs : List Value} (h : w.ownsRow base e size v n xs) (hb : Below w.heap.size w w') : w'.ownsRow base e size v n xs := by
  obtain ⟨h1, h2⟩ := h
  refine ⟨h1, ?_⟩
  rcases h2 with h2 | ⟨g, cap, cur, q1, q2, q3, q4⟩
  · exact Or.inl h2
  · refine Or.inr ⟨g, cap, cur, q1, q2, ?_, q4⟩
    have : g < w.heap.size := by
      by_cases hx : g < w.heap.size
      · exact hx
      · rw [Array.getElem?_eq_none (by omega)] at q3; simp at q3
    rw [hb.block g this]
    exact q3

set_option maxHeartbeats 1000000 in
theorem ringPut_any (k a : List ByteArray) (j rb : Nat) (w : World) (hjk : j < k.length) (hja : j < a.length) (hj : j < 4) (h : RgM w rb k a j) :
    Calls Try.prog 14 #[.pointer (some ⟨rb, 0, none⟩), .string k[j], .string a[j]] w fun e w' => e = .returned (.tuple #[]) ∧ RgM w' rb k a (j + 1) ∧ Below rb w w' := by
  obtain ⟨ao, g, cap, h1, h2, h3, h4⟩ := h.cells (by omega) (by omega)
  clear h4
  have HAO : Hid (0 < j → ao = some ⟨g, 0, none⟩) := h3
  have HO : Hid (Owns w rb #[.slice ao j cap, .int .i64 4, .int .i64 0] 39) := h1
  have HOWN : Hid (w.ownsRow (rb + 1) 45 2 (.slice ao j cap) j (spC k a j)) := h2
  have hlt := h1.lt
  have hj4 : (j : Int) < 4 := by omega
  obtain ⟨i0, hi0, hz0, hz1, hz2⟩ := info_spot
  obtain ⟨W, hW⟩ : ∃ W, W = w.alloc (.cells #[.string k[j], .string a[j]] 45) := ⟨_, rfl⟩
  have hO2 : Owns W rb #[.slice ao j cap, .int .i64 4, .int .i64 0] 39 := by rw [hW]; exact h1.below ((Below.refl _ _).alloc (Nat.le_refl _) _) hlt
  have b0 := hO2.cell 0
  have b1 := hO2.cell 1
  have b0f := hO2.frozen 0
  simp at b0 b1
  have x0 : W.cell? ⟨w.heap.size, 0, none⟩ = some (.string k[j]) := by rw [hW]; simp
  have x1 : W.cell? ⟨w.heap.size, 1, none⟩ = some (.string a[j]) := by rw [hW]; simp
  have HWo : Hid (W.ownsRow (rb + 1) 45 2 (.slice ao j cap) j (spC k a j)) := by rw [hW]; exact h2.alloc _
  have HWB : Hid (Below w.heap.size w W) := by rw [hW]; exact (Below.refl _ _).alloc (Nat.le_refl _) _
  have HO2 : Hid _ := hO2
  have hrW : rb < W.heap.size := hO2.lt
  clear h h1 h2 h3 hO2
  go_enter Try.func14, Try.ntmps14
  go_wp2_with fail
  rw [← hW]
  clear hW
  go_region
  go_wp2_with fail
  have HNE : Hid (∀ b, (Value.slice ao j cap).ownBlock = some b → rb ≠ b) := fun b hb => by have := (HWo.out.lt b hb).1; omega
  have HRW : Hid (rb < W.heap.size) := hrW
  have HB0 : Hid (W.cell? ⟨rb, 0, none⟩ = some (.slice ao j cap)) := b0
  have HBF : Hid (W.frozen? ⟨rb, 0, none⟩ = false) := b0f
  go_region_law (refine step_append_lies _ (by rfl) _ _ _ (by rfl) (rb + 1) 45 i0 _ 2 32 Try.underlying37 hi0 hz0 hz1 hz2 rfl (by omega) (.slice ao j cap) j (spC k a j) (by rfl) (HWo.out.alloc _) ⟨W.heap.size, 0, none⟩ 1 1 [.string k[j], .string a[j]] (by rfl) (by rfl) (World.news_of_block (cs := #[.string k[j], .string a[j]]) (t := 45) (fr := (0, 0)) (heap_alloc_new W _)) (by simp [Value.oneCell']) (by omega) (by unfold maxLen; omega) (by omega) (by have := HRW.out; simp; omega) (W.heap.size + 1) (by simp) ?_; intro g' cap' w2 hown2 hgrow hat hlt2; have e0 : w2.cell? ⟨rb, 0, none⟩ = some (.slice ao j cap) := hgrow.cell (a := ⟨rb, 0, none⟩) ((World.cell?_alloc_lt _ _ _ HRW.out).trans HB0.out) (fun he => HNE.out rb he.symm rfl); have e0f : w2.frozen? ⟨rb, 0, none⟩ = false := (hgrow.frozen_far ⟨rb, 0, none⟩ (by have := HRW.out; simp; omega) (fun he => HNE.out rb he.symm rfl)).trans ((World.frozen?_of_block (w := W) (Below.heap_alloc _ _ _ HRW.out)).trans HBF.out))
  all_goals
    have o2 : Owns w2 rb #[.slice ao j cap, .int .i64 4, .int .i64 0] 39 := by
      show w2.heap[rb]? = _
      rw [hgrow.block rb (by have := HRW.out; simp; omega) (fun he => HNE.out rb he.symm rfl)]
      exact (Below.heap_alloc _ _ _ HRW.out).trans HO2.out
    have hB2 : Below rb w w2 := by
      have h1 := HWB.out
      have h2 := HRW.out
      refine ⟨hgrow.os.trans h1.os, hgrow.tape.trans h1.tape, hgrow.output.trans h1.output, by have := hgrow.size; have := h1.size; simp at *; omega, fun q hq => ?_⟩
      rw [hgrow.block q (by simp; omega) (fun he => by have := (HWo.out.lt q he.symm).1; omega)]
      exact (Below.heap_alloc _ _ _ (by omega)).trans (h1.block q (by omega))
    have HE : Hid (RgM (w2.setCell ⟨rb, 0, none⟩ (.slice (some ⟨g', 0, none⟩) (j + 1) cap')) rb k a (j + 1) ∧ Below rb w (w2.setCell ⟨rb, 0, none⟩ (.slice (some ⟨g', 0, none⟩) (j + 1) cap'))) := by
      refine ⟨⟨_, by simpa using o2.set 0 (.slice (some ⟨g', 0, none⟩) (j + 1) cap'), ?_⟩, hB2.setCell (by simp) _⟩
      rw [spC_snoc hjk hja]
      exact own_set (by omega) hown2
    clear hgrow hown2 e0 e0f hat o2 hB2 HO HOWN HWo HWB HO2 HNE HRW HB0 HBF HAO b0f b0 b1 x0 x1
    go_wp2_with fail
    first
      | (go_end0; exact ⟨rfl, HE.out⟩)
      | (go_ret2; exact ⟨rfl, HE.out⟩)
      | (go_ret; exact ⟨rfl, HE.out⟩)
      | exact bodyPost_ret (v := .tuple #[]) (by simp [results, Try.results14, go_sem]) rfl ⟨rfl, HE.out⟩

set_option maxHeartbeats 2000000 in
theorem ringOf_any (k a : List ByteArray) (v va : Value) (w : World) (hk : StrRow w 0 k v) (ha : StrRow w 0 a va) :
    Calls Try.prog 11 #[.agg #[v, va]] w fun e w' => ∃ p, e = .returned (.tuple #[.pointer p, .bool (okK k a)]) ∧ Below w.heap.size w w' := by
  obtain ⟨a1, c1, rfl, _, hrest⟩ := hk.len
  obtain ⟨a2, c2, rfl, _, hrest2⟩ := ha.len
  have hlen : (k.length : Int) ≤ 140737488351232 := by omega
  have hlen2 : (a.length : Int) ≤ 140737488351232 := by omega
  clear hk ha
  by_cases h4 : k.length ≤ 4
  · by_cases hla : k.length = a.length
    · have e1 : decide ((4 : Int) < (k.length : Int)) = false := by simp; omega
      have e2 : ((a.length : Int) != (k.length : Int)) = false := by simp; omega
      have HLA : Hid (k.length = a.length) := hla
      clear hla
      go_enter Try.func11, Try.ntmps11
      go_wp2_with fail
      go_loopw [28] (fun i wr => ∃ j : Nat, j ≤ k.length ∧ i = .int .i64 j ∧ Hid (distP k j = true) ∧ Hid (Owns wr w.heap.size #[.slice a1 k.length c1, .slice a2 a.length c2] 27) ∧ Hid (RgM wr (w.heap.size + 1) k a j) ∧ Hid (Below w.heap.size w wr)) (fun i _ => k.length - (intOf i).toNat)
      case atStart =>
        refine ⟨0, Nat.zero_le _, rfl, rfl, (Owns.made w _ _).below ((Below.refl _ _).alloc (Nat.le_refl _) _) (by simp), ⟨.slice none 0 0, ?_, rfl, Or.inl ⟨rfl, rfl⟩⟩, ((Below.refl _ _).alloc (Nat.le_refl _) _).alloc (by simp) _⟩
        have := Owns.made (w.alloc (.cells #[.slice a1 k.length c1, .slice a2 a.length c2] 27)) #[.slice none 0 0, .int .i64 4, .int .i64 0] 39
        simpa using this
      case round =>
        obtain ⟨j, hj, rfl, HD, HO, HM, HB⟩ := hrel
        by_cases hlt : j < k.length
        · have hlti : (j : Int) < (k.length : Int) := by omega
          have hja : j < a.length := by have := HLA.out; omega
          have hjai : (j : Int) < (a.length : Int) := by omega
          obtain ⟨b, off, rfl, _, hcs⟩ := hrest (List.ne_nil_of_length_pos (by omega))
          obtain ⟨b2, off2, rfl, _, hcs2⟩ := hrest2 (List.ne_nil_of_length_pos (by omega))
          obtain ⟨x0, _⟩ := hcs j hlt
          obtain ⟨y0, _⟩ := hcs2 j hja
          have HX : Hid (w.cell? ⟨b, off + j, none⟩ = some (.string k[j]) ∧ w.cell? ⟨b2, off2 + j, none⟩ = some (.string a[j])) := ⟨x0, y0⟩
          have hk : Keeps 0 w wr := Keeps.of_below HB.out (Nat.le_refl _) _
          have cj := hk.cell (p := ⟨b, off + j, none⟩) (Nat.zero_le _) x0
          clear hcs hcs2 hrest hrest2 x0 y0 hk
          go_wp2_with fail
          refine (ringAt_any k a j (w.heap.size + 1) k[j] wr (by omega) (by omega) (by omega) HM.out).mono ?_
          rintro e w1 ⟨s, rfl, hb1⟩
          have hHO := HO.out
          have hHM := HM.out
          have hHB := HB.out
          have hlto := hHO.lt
          have HO1 : Hid (Owns w1 w.heap.size #[.slice (some ⟨b, off, none⟩) k.length c1, .slice (some ⟨b2, off2, none⟩) a.length c2] 27) := hHO.below hb1 hlto
          have HM1 : Hid (RgM w1 (w.heap.size + 1) k a j) := by
            obtain ⟨v, q1, q2⟩ := hHM
            exact ⟨v, q1.below hb1 q1.lt, own_below q2 hb1⟩
          have HB1 : Hid (Below w.heap.size w w1) := hHB.trans (hb1.mono hHB.size)
          have cj1 := cell_on hb1 cj
          clear hb1 cj HO HM HB hHO hHM hHB
          cases hh : hasB (k.take j) k[j]
          · have HN : Hid (distP k (j + 1) = true) := by show _ = _; rw [distP_step hlt, HD.out, hh]; rfl
            have o1 := HO1.out.cell 1
            simp at o1
            have hk1 : Keeps 0 w w1 := Keeps.of_below HB1.out (Nat.le_refl _) _
            have da := hk1.cell (p := ⟨b2, off2 + j, none⟩) (Nat.zero_le _) HX.out.2
            clear hk1
            go_wp2_with fail
            refine (ringPut_any k a j (w.heap.size + 1) w1 hlt hja (by omega) HM1.out).mono ?_
            rintro e w2 ⟨rfl, hM2, hb2⟩
            have HM2 : Hid (RgM w2 (w.heap.size + 1) k a (j + 1)) := hM2
            have HO2 : Hid (Owns w2 w.heap.size #[.slice (some ⟨b, off, none⟩) k.length c1, .slice (some ⟨b2, off2, none⟩) a.length c2] 27) := HO1.out.below hb2 (by omega)
            have HB2 : Hid (Below w.heap.size w w2) := HB1.out.trans (hb2.mono (by omega))
            clear hM2 hb2 o1 da HM1 HO1 HB1
            go_wp2_with fail
            exact ⟨⟨j + 1, by omega, by go_num, HN, HO2, HM2, HB2⟩, by simp [intOf]; omega⟩
          · have HF : Hid (okK k a = false) := by
              show _ = _
              have h1 : distP k (j + 1) = false := by rw [distP_step hlt, hh]; simp
              rw [okK, distP_down (by omega) h1]
              rfl
            go_wp2_with fail
            exact bodyPost_ret (v := .tuple #[.pointer (some ⟨w.heap.size + 1, 0, none⟩), .bool false]) (by simp [results, Try.results11, go_sem]) rfl ⟨_, by rw [HF.out], HB1.out⟩
        · obtain rfl : j = k.length := by omega
          have HR : Hid (okK k a = true) := by show _ = _; rw [okK, HD.out]; have := HLA.out; simp; omega
          clear hrest hrest2
          go_wp2_with fail
          exact bodyPost_ret (v := .tuple #[.pointer (some ⟨w.heap.size + 1, 0, none⟩), .bool true]) (by simp [results, Try.results11, go_sem]) rfl ⟨_, by rw [HR.out], HB.out⟩
    · have HR : Hid (okK k a = false) := by show _ = _; rw [okK]; simp [hla]
      have e1 : decide ((4 : Int) < (k.length : Int)) = false := by simp; omega
      have e2 : ((a.length : Int) != (k.length : Int)) = true := by simp; omega
      clear hrest hrest2 hla
      go_enter Try.func11, Try.ntmps11
      go_wp2_with fail
      exact bodyPost_ret (v := .tuple #[.pointer (some ⟨w.heap.size + 1, 0, none⟩), .bool false]) (by simp [results, Try.results11, go_sem]) rfl ⟨_, by rw [HR.out], ((Below.refl _ _).alloc (Nat.le_refl _) _).alloc (by simp) _⟩
  · have HR : Hid (okK k a = false) := by show _ = _; rw [okK]; simp; omega
    have e1 : decide ((4 : Int) < (k.length : Int)) = true := by simp; omega
    clear hrest hrest2
    go_enter Try.func11, Try.ntmps11
    go_wp2_with fail
    exact bodyPost_ret (v := .tuple #[.pointer (some ⟨w.heap.size + 1, 0, none⟩), .bool false]) (by simp [results, Try.results11, go_sem]) rfl ⟨_, by rw [HR.out], ((Below.refl _ _).alloc (Nat.le_refl _) _).alloc (by simp) _⟩

set_option maxHeartbeats 1000000 in
theorem implCacheOk_any (k a : List ByteArray) (v va : Value) (w : World) (hk : StrRow w 0 k v) (ha : StrRow w 0 a va) :
    Calls Try.prog 7 #[.agg #[v, va]] w fun e w' => e = .returned (.bool (okK k a)) ∧ Below w.heap.size w w' := by
  obtain ⟨a1, c1, rfl, _, _⟩ := hk.len
  obtain ⟨a2, c2, rfl, _, _⟩ := ha.len
  have HK : Hid (∀ W, Keeps 0 w W → StrRow W 0 k (.slice a1 k.length c1) ∧ StrRow W 0 a (.slice a2 a.length c2)) := fun W h => ⟨hk.keeps h, ha.keeps h⟩
  clear hk ha
  go_enter Try.func7, Try.ntmps7
  go_wp2_with fail
  have HK2 := HK.out _ ((Keeps.refl 0 w).alloc (.cells #[.slice a1 k.length c1, .slice a2 a.length c2] 27))
  refine (ringOf_any k a _ _ _ HK2.1 HK2.2).mono ?_
  rintro e w1 ⟨p, rfl, hb1⟩
  have HB1 : Hid (Below w.heap.size w w1) := ((Below.refl _ _).alloc (Nat.le_refl _) _).trans (hb1.mono (by simp))
  clear hb1 HK2
  go_wp2_with fail
  go_ret
  exact ⟨rfl, HB1.out⟩

end Go.Proofs.Ytkogdlncjciboaa
