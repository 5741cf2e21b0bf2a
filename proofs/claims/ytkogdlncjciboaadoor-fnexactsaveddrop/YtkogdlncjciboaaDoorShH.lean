
/-
  DERIVED. THE SUM OF A TEXT: the walk of impl.DocSum.
-/
import Derived.Test.YtkogdlncjciboaaDoorShG
namespace Go.Proofs.YtkogdlncjciboaaDoor
open Go.RowKit
set_option linter.unusedVariables false
set_option linter.unusedSimpArgs false

/-- Bytes as a text. -/
def txB (l : List UInt8) : ByteArray := ⟨l.toArray⟩
theorem txB_of {t : ByteArray} {l : List UInt8} (h : t.data.toList = l) : t = txB l := by
  subst h; unfold txB; rw [Array.toArray_toList]
/-- What the sum of a text is. -/
def docSum (t : ByteArray) : ByteArray := txB (sumT t.data.toList)
theorem docSum_size (t : ByteArray) : (docSum t).size = 16 := by
  show (sumT t.data.toList).toArray.size = 16
  rw [List.size_toArray, sumT_length]

set_option maxHeartbeats 1000000 in
theorem implDocSum_any (t : ByteArray) (w : World) (hk : KTab w) (ht : t.size ≤ 1099511627776) :
    Calls Tryd.prog 8 #[.string t] w fun e w' => e = .returned (.string (docSum t)) ∧ Below w.heap.size w w' := by
  have HK : Hid (KTab w) := hk
  have h0 : 0 < w.heap.size := cell_lt (hk 0 (by omega))
  clear hk
  go_enter Tryd.func8, Tryd.ntmps8
  go_wp2_with fail
  refine (new_any w).mono ?_
  rintro e w1 ⟨rfl, hO1, hb1⟩
  have HO1 : Hid (WrM w1 w.heap.size s0 ByteArray.empty 0) := hO1
  have HK1 : Hid (KTab w1) := HK.out.on hb1
  have HB1 : Hid (Below w.heap.size w w1) := hb1
  clear hO1 hb1 HK
  go_wp2_with fail
  refine (write_any s0 ByteArray.empty t 0 w.heap.size w1 HO1.out HK1.out h0 (by decide) (by omega) (by omega)).mono ?_
  rintro e w2 ⟨rfl, ⟨rest, hr, hO2⟩, hT2⟩
  have hem : ByteArray.empty.data.toList ++ t.data.toList = t.data.toList := rfl
  rw [hem] at hr hO2
  rw [Nat.zero_add] at hO2
  obtain ⟨s, hs⟩ : ∃ s, (runB s0 t.data.toList).1 = s := ⟨_, rfl⟩
  rw [hs] at hO2
  have hrun : runB s0 t.data.toList = (s, rest.data.toList) := by rw [← hs, hr]
  have HRUN : Hid (runB s0 t.data.toList = (s, rest.data.toList)) := hrun
  have HO2 : Hid (WrM w2 w.heap.size s rest t.data.toList.length) := by rw [Array.length_toList]; exact hO2
  have HK2 : Hid (KTab w2) := HK1.out.turns hT2 h0
  have HB2 : Hid (Below w.heap.size w w2) := hT2.below HB1.out (by simp) HB1.out.size
  have HL : Hid (t.data.toList.length ≤ 1099511627776) := by rw [Array.length_toList]; exact ht
  clear hs hrun hr hO2 hT2 HO1 HK1 HB1 hem
  go_wp2_with fail
  refine (sum_any t.data.toList s rest w.heap.size w2 HO2.out HRUN.out HK2.out h0 HL.out).mono ?_
  rintro e w3 ⟨u, rfl, hu, hT3⟩
  have hus : u.size = 64 := by
    have h1 : u.data.toList.length = 64 := by rw [hu, hexB_length, sumB_length]
    rw [Array.length_toList] at h1
    exact h1
  have hex : u.extract 0 16 = docSum t := by
    apply txB_of
    rw [Lib.extract_data]
    simp [hu, sumT]
  have hus2 : (16 : Int) ≤ (u.size : Int) := by omega
  have HX : Hid (u.extract 0 16 = docSum t) := hex
  have HB3 : Hid (Below w.heap.size w w3) := hT3.below HB2.out (by simp) HB2.out.size
  clear hu hT3 HO2 HRUN HK2 HB2 hex
  go_wp2_with fail
  go_ret
  exact ⟨by first | exact congrArg _ (congrArg _ HX.out) | (rw [HX.out]; rfl), HB3.out⟩

end Go.Proofs.YtkogdlncjciboaaDoor
