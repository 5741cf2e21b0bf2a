
/-
  DERIVED. A SUM THAT IS WRITTEN TO: the walks of impl.sumWriterNew, (*impl.sumWriter).write.
-/
import Derived.Test.YtkogdlncjciboaaDoorShC
namespace Go.Proofs.YtkogdlncjciboaaDoor
open Go.RowKit
set_option linter.unusedVariables false
set_option linter.unusedSimpArgs false

/-- A writer in block b: its state, what is no whole block yet, how many bytes there were. -/
def WrM (w : World) (b : Nat) (s : S8) (rest : ByteArray) (n : Nat) : Prop := Owns w b (s.cs ++ [Value.string rest, Value.int .i64 (n : Int)]).toArray 61

theorem new_any (w : World) : Calls Tryd.prog 21 #[] w fun e w' => e = .returned (.pointer (some ⟨w.heap.size, 0, none⟩)) ∧ WrM w' w.heap.size s0 ByteArray.empty 0 ∧ Below w.heap.size w w' := by
  go_enter Tryd.func21, Tryd.ntmps21
  go_wp2_with fail
  go_ret
  refine ⟨rfl, ?_, (Below.refl _ _).alloc (Nat.le_refl _) _⟩
  exact Owns.made w _ _

theorem app_toList (a b : ByteArray) : (a ++ b).data.toList = a.data.toList ++ b.data.toList := by simp
theorem ext0 (l : ByteArray) (h : 64 ≤ l.size) : (l.extract 0 64).data.toList = l.data.toList.take 64 ∧ (l.extract 0 64).size = 64 := by
  refine ⟨?_, ?_⟩
  · rw [Lib.extract_data]; simp
  · rw [ByteArray.size_extract]; omega
theorem ext64 (l : ByteArray) (h : 64 ≤ l.size) : (l.extract 64 l.size).data.toList = l.data.toList.drop 64 ∧ (l.extract 64 l.size).size = l.size - 64 := by
  refine ⟨?_, ?_⟩
  · rw [Lib.extract_data]
    rw [List.take_of_length_le (by simp)]
  · rw [ByteArray.size_extract]; omega

set_option maxHeartbeats 2000000 in
theorem write_any (s : S8) (rest piece : ByteArray) (n b : Nat) (w : World) (h : WrM w b s rest n) (hk : KTab w) (hb0 : 0 < b) (hr : rest.size < 64) (hp : piece.size ≤ 140737488351232) (hn : n ≤ 140737488351232) :
    Calls Tryd.prog 22 #[.pointer (some ⟨b, 0, none⟩), .string piece] w fun e w' => e = .returned (.tuple #[]) ∧
      (∃ rest', rest'.data.toList = (runB s (rest.data.toList ++ piece.data.toList)).2 ∧ WrM w' b (runB s (rest.data.toList ++ piece.data.toList)).1 rest' (n + piece.size)) ∧ Turns [b] w w' := by
  have HO : Hid (WrM w b s rest n) := h
  have HK : Hid (KTab w) := hk
  have c8 : w.cell? ⟨b, 8, none⟩ = some (.string rest) := (h.cell 8).trans rfl
  have c9 : w.cell? ⟨b, 9, none⟩ = some (.int .i64 (n : Int)) := (h.cell 9).trans rfl
  have f9 : w.frozen? ⟨b, 9, none⟩ = false := h.frozen 9
  have hpi : (piece.size : Int) ≤ 140737488351232 := by omega
  have hni : (n : Int) ≤ 140737488351232 := by omega
  have hri : (rest.size : Int) < 64 := by omega
  clear h hk
  go_enter Tryd.func22, Tryd.ntmps22
  go_wp2_with fail
  generalize hW1 : w.setCell ⟨b, 9, none⟩ _ = W1
  have HO1 : Hid (WrM W1 b s rest (n + piece.size)) := by
    have h1 := (HO.out : Owns _ _ _ _).set 9 (.int .i64 ((n : Int) + (piece.size : Int)))
    rw [← hW1]
    exact h1
  have HT1 : Hid (Turns [b] w W1) := by rw [← hW1]; exact (Turns.refl _ _).setCell List.mem_cons_self _
  clear hW1 c8 c9 f9
  obtain ⟨L, hL⟩ : ∃ L, rest ++ piece = L := ⟨_, rfl⟩
  have HL : Hid (L.data.toList = rest.data.toList ++ piece.data.toList) := by show _ = _; rw [← hL, app_toList]
  have hLs : (L.size : Int) ≤ 140737488351300 := by rw [← hL, ByteArray.size_append]; omega
  rw [hL]
  clear hL
  go_loopw [4] (fun lv wr => ∃ (s' : S8) (l : ByteArray), lv = .string l ∧ l.size ≤ L.size ∧ Hid (runB s L.data.toList = runB s' l.data.toList) ∧ Hid (WrM wr b s' rest (n + piece.size)) ∧ Hid (Turns [b] w wr)) (fun lv _ => (match lv with | .string l => l.size | _ => 0))
  case atStart => exact ⟨s, L, rfl, Nat.le_refl _, rfl, HO1, HT1⟩
  case round =>
    obtain ⟨s', l, rfl, hll, HRB, HOr, HTr⟩ := hrel
    clear HO1 HT1
    by_cases h64 : 64 ≤ l.size
    · have h64i : (64 : Int) ≤ (l.size : Int) := by omega
      obtain ⟨hx1, hx2⟩ := ext0 l h64
      obtain ⟨hy1, hy2⟩ := ext64 l h64
      have hkr : KTab wr := HK.out.turns HTr.out hb0
      have hMX : ∀ W : World, W.heap = wr.heap → W.os = wr.os → W.tape = wr.tape → W.output = wr.output → Calls Tryd.prog 39 #[.pointer (some ⟨b, 0, none⟩), .string (l.extract 0 64)] W fun e w' => e = .returned (.tuple #[]) ∧ WrM w' b (s'.mix (l.data.toList.take 64)) rest (n + piece.size) ∧ Turns [b] w w' := fun W e1 e2 e3 e4 => by
        have hO : Owns W b (s'.cs ++ [Value.string rest, Value.int .i64 ((n + piece.size : Nat) : Int)]).toArray 61 := by unfold Owns; rw [e1]; exact HOr.out
        have hK : KTab W := fun i hi => by rw [World.cell?_of_block (w := wr) (a := ⟨0, i, none⟩) (by rw [e1])]; exact hkr i hi
        have hT : Turns [b] w W := ⟨e2.trans HTr.out.os, e3.trans HTr.out.tape, e4.trans HTr.out.output, by rw [e1]; exact HTr.out.size, fun q h1 h2 => by rw [e1]; exact HTr.out.block q h1 h2⟩
        refine (mix_any s' (l.extract 0 64) _ _ b W hO hK hb0 hx2).mono ?_
        rintro e w' ⟨rfl, h1, h2⟩
        rw [hx1] at h1
        exact ⟨rfl, h1, hT.trans h2⟩
      have HMX : Hid (Calls Tryd.prog 39 #[.pointer (some ⟨b, 0, none⟩), .string (l.extract 0 64)] wr.drew fun e w' => e = .returned (.tuple #[]) ∧ Hid (WrM w' b (s'.mix (l.data.toList.take 64)) rest (n + piece.size)) ∧ Hid (Turns [b] w w')) := hMX wr.drew rfl rfl rfl rfl
      clear hMX
      have HRB2 : Hid (runB s L.data.toList = runB (s'.mix (l.data.toList.take 64)) (l.extract 64 l.size).data.toList) := by
        show _ = _
        rw [HRB.out, runB_whole (by rw [Array.length_toList]; exact h64), hy1]
      have hys : (l.extract 64 l.size).size < l.size := by omega
      have hyl : (l.extract 64 l.size).size ≤ L.size := by omega
      clear hkr HRB HOr HTr hx1 hx2 hy1 hy2
      go_wp2_with fail
      go_region_with (go_at_call 39; refine (Hid.out HMX).mono ?_; rintro e w2 ⟨rfl, HO2, HT2⟩)
      all_goals
        go_wp2_with fail
        exact ⟨⟨_, _, rfl, hyl, HRB2, HO2, HT2⟩, hys⟩
    · have h64i : ¬ (64 : Int) ≤ (l.size : Int) := by omega
      have h64d : decide ((64 : Int) ≤ (l.size : Int)) = false := decide_eq_false h64i
      have c8 : wr.cell? ⟨b, 8, none⟩ = some (.string rest) := (Owns.cell HOr.out 8).trans rfl
      have f8 : wr.frozen? ⟨b, 8, none⟩ = false := Owns.frozen HOr.out 8
      have HE : Hid (runB s (rest.data.toList ++ piece.data.toList) = (s', l.data.toList)) := by
        show _ = _
        rw [← HL.out, HRB.out, runB_rest (by rw [Array.length_toList]; show l.size < 64; omega)]
      have HO3 : Hid (WrM (wr.setCell ⟨b, 8, none⟩ (.string l)) b s' l (n + piece.size)) := by
        have h1 := (HOr.out : Owns _ _ _ _).set 8 (.string l)
        exact h1
      have HT3 : Hid (Turns [b] w (wr.setCell ⟨b, 8, none⟩ (.string l))) := HTr.out.setCell List.mem_cons_self _
      clear HOr HTr HRB
      go_wp2_with fail
      go_end0
      refine ⟨rfl, ?_, HT3.out⟩
      rw [HE.out]
      exact ⟨l, rfl, HO3.out⟩

end Go.Proofs.YtkogdlncjciboaaDoor
