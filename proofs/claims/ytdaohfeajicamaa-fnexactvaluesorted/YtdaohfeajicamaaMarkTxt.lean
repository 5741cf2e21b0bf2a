
/-
  DERIVED. THE WALK OF laws.markText: a text that hangs on the number alone.
-/
import Derived.Test.YtdaohfeajicamaaNames
import Derived.Test.YtdaohfeajicamaaRep
import Derived.Deep.RegionWith
import Derived.BigQuiet
namespace Go.Proofs.Ytdaohfeajicamaa
open Go.RowKit
set_option linter.unusedVariables false
set_option linter.unusedSimpArgs false

def figU (n : Nat) : UInt8 := UInt8.ofNat (48 + n % 10)
/-- Figures of a number ahead of a text. -/
def dig : Nat → Nat → ByteArray → ByteArray
  | 0, _, acc => acc
  | f + 1, n, acc => if n = 0 then acc else dig f (n / 10) (⟨#[figU n]⟩ ++ acc)
theorem dig_zero (f : Nat) (acc : ByteArray) : dig f 0 acc = acc := by cases f <;> simp [dig]
theorem dig_succ {f n : Nat} (h : n ≠ 0) (acc : ByteArray) : dig (f + 1) n acc = dig f (n / 10) (⟨#[figU n]⟩ ++ acc) := by rw [dig, if_neg h]

/-- The text of a mark. -/
def markB (k : Nat) : ByteArray := ⟨#[109]⟩ ++ dig 8 k ByteArray.empty

set_option maxRecDepth 10000 in
set_option maxHeartbeats 1000000 in
theorem markText_any (k : Nat) (w : World) (h1 : 1 ≤ k) (h2 : k ≤ 99999999) :
    Calls Try.prog 64 #[.int .i64 (k : Int)] w fun e w' => e = .returned (.string (markB k)) ∧ Below w.heap.size w w' := by
  have hk1 : (1 : Int) ≤ (k : Int) := by omega
  have hk2 : (k : Int) ≤ 99999999 := by omega
  go_enter Try.func64, Try.ntmps64
  go_wp2_with fail
  go_loopw [0, 3] (fun n o wr => ∃ (f m : Nat) (acc : ByteArray), f ≤ 8 ∧ m < 10 ^ f ∧ m ≤ 99999999 ∧ acc.size + f ≤ 8 ∧ n = .int .i64 (m : Int) ∧ o = .string acc ∧ Hid (dig f m acc = dig 8 k ByteArray.empty) ∧ Below w.heap.size w wr) (fun n _ _ => (intOf n).toNat)
  case atStart => exact ⟨8, k, ByteArray.empty, by omega, by omega, by omega, by simp, rfl, rfl, rfl, Below.refl _ _⟩
  case round =>
    obtain ⟨f, m, acc, hf, hm, hm2, hacc, rfl, rfl, HD, hb⟩ := hrel
    have hm3 : (m : Int) ≤ 99999999 := by omega
    by_cases h0 : m = 0
    · subst h0
      have hfin : Hid (acc = dig 8 k ByteArray.empty) := by have := HD.out; rw [dig_zero] at this; exact this
      clear HD
      go_wp2_with fail
      go_ret
      exact ⟨ret_string (by rw [markB, hfin.out]), hb⟩
    · have hpos : (0 : Int) < (m : Int) := by omega
      have hcv : Sem.run Try.prog (convert 35 9 (Value.slice (some ⟨wr.heap.size, 0, none⟩) 1 1)) (wr.alloc (Obj.cells #[Value.int .u8 (48 + (m : Int) % 10)] 5)) = .ok (.string ⟨#[figU m]⟩) (wr.alloc (Obj.cells #[Value.int .u8 (48 + (m : Int) % 10)] 5)) := by
        have h := run_convert_bytes_arg (P := Try.prog) (wr.alloc (Obj.cells #[Value.int .u8 (48 + (m : Int) % 10)] 5)) 35 5 Try.underlying35 Try.underlying5 wr.heap.size 0 1 1 [48 + (m : Int) % 10] rfl (fun i hi => by
          obtain rfl : i = 0 := by omega
          simp) 9 Try.underlying9
        rw [h]
        have e1 : (48 + (m : Int) % 10).toNat = 48 + m % 10 := by omega
        simp only [strOfNums, List.map_cons, List.map_nil, e1]
        rfl
      have hasz : acc.size ≤ 8 := by omega
      have hf1 : ∃ g, f = g + 1 := by
        cases f with
        | zero => simp at hm; omega
        | succ g => exact ⟨g, rfl⟩
      obtain ⟨g, rfl⟩ := hf1
      have HN : Hid (dig g (m / 10) (⟨#[figU m]⟩ ++ acc) = dig 8 k ByteArray.empty) := by show _ = _; rw [← HD.out, dig_succ h0]
      have hm10 : m / 10 < 10 ^ g := by
        rw [Nat.pow_succ] at hm; omega
      clear HD
      go_wp2_with fail
      refine ⟨⟨g, m / 10, _, by omega, hm10, by omega, ?_, ?_, rfl, HN, hb.alloc hb.size _⟩, ?_⟩
      · simp [ByteArray.size_append]
        have : (⟨#[figU m]⟩ : ByteArray).size = 1 := rfl
        omega
      · go_num
      · simp [intOf]
        omega

end Go.Proofs.Ytdaohfeajicamaa
