
/-
  DERIVED. THE WALKS OF laws.szStringS, laws.toStringS, laws.eqStringS.
-/
import Derived.Test.YtdaohfeajicamaaRows
import Derived.Test.YtdaohfeajicamaaRepV
import Derived.Test.YtdaohfeajicamaaVlInfo
import Derived.WalkKit
import Derived.WalkSpells
import Derived.WalkLawsBesides
import Derived.Deep.RegionWith
import Derived.BigQuiet
namespace Go.Proofs.Ytdaohfeajicamaa
open Go.RowKit
set_option linter.unusedVariables false
set_option linter.unusedSimpArgs false

/-- What a size answers: no more than it was given, and -1 at least. -/
def SzPost (left : Int) (w : World) (e : Ending) (w' : World) : Prop := ∃ r : Int, e = .returned (.int .i64 r) ∧ -1 ≤ r ∧ r ≤ left ∧ Below w.heap.size w w'

set_option maxHeartbeats 400000 in
theorem szStringS_any (l : List ByteArray) (v : Value) (left : Int) (w : World) (hrow : StrRow w 0 l v) (h0 : 0 ≤ left) (h1 : left ≤ 1048576) :
    Calls Try.prog 31 #[v, .int .i64 left] w (SzPost left w) := by
  obtain ⟨a, cap, rfl, hw, hrest⟩ := hrow.len
  have hlen : (l.length : Int) ≤ 140737488351232 := by omega
  clear hrow
  by_cases hneg : left - (l.length : Int) < 0
  · go_enter Try.func31, Try.ntmps31
    go_wp2_with fail
    go_ret
    exact ⟨_, rfl, by omega, by omega, Below.refl _ _⟩
  · go_enter Try.func31, Try.ntmps31
    go_wp2_with fail
    go_loop [1, 5] (fun lf i => ∃ (j : Nat) (r : Int), j ≤ l.length ∧ i = .int .i64 j ∧ lf = .int .i64 r ∧ 0 ≤ r ∧ r ≤ left) (fun _ i => l.length - (intOf i).toNat)
    case atStart => exact ⟨0, _, Nat.zero_le _, rfl, rfl, by omega, by omega⟩
    case round =>
      obtain ⟨j, r, hj, rfl, rfl, hr0, hr1⟩ := hrel
      by_cases hlt : j < l.length
      · obtain ⟨b, off, rfl, _, hcs⟩ := hrest (List.ne_nil_of_length_pos (by omega))
        obtain ⟨c0, hs⟩ := hcs j hlt
        clear hcs hrest
        by_cases hn : r - (l[j].size : Int) < 0
        · go_wp2_with fail
          go_ret
          exact ⟨_, rfl, by omega, by omega, Below.refl _ _⟩
        · go_wp2_with fail
          exact ⟨⟨j + 1, _, by omega, by go_num, rfl, by omega, by omega⟩, by simp [intOf]; omega⟩
      · go_wp2_with fail
        go_ret
        exact ⟨_, rfl, by omega, by omega, Below.refl _ _⟩

set_option maxHeartbeats 400000 in
theorem toStringS_any (l : List ByteArray) (v : Value) (w : World) (hrow : StrRow w 0 l v) :
    Calls Try.prog 34 #[v] w fun e w' => ∃ v', e = .returned v' ∧ StrRow w' w.heap.size l v' ∧ Below w.heap.size w w' := by
  obtain ⟨a, cap, rfl, hw, hrest⟩ := hrow.len
  have hlen : (l.length : Int) ≤ 140737488351232 := by omega
  obtain ⟨i, hi, hz, hs, hby⟩ := info_string
  have hmk := run_make (P := Try.prog) w 23 9 i _ Try.underlying23 hi hz .i64 .i64 (l.length : Int) (l.length : Int) (by omega) (by omega) (by rw [hby]; omega) (by omega)
  rw [hs, Int.toNat_natCast] at hmk
  clear hi hz hs hby hrow
  go_enter Try.func34, Try.ntmps34
  go_wp2_with fail
  clear hmk
  go_loopw [4] (fun i wr => ∃ j : Nat, j ≤ l.length ∧ i = .int .i64 j ∧ Filled wr w.heap.size 1 9 StrR l j ∧ Below w.heap.size w wr) (fun i _ => l.length - (intOf i).toNat)
  case atStart =>
    refine ⟨0, Nat.zero_le _, rfl, ?_, (Below.refl _ _).alloc (Nat.le_refl _) _⟩
    exact Filled.made w 1 9 _ l _ (by simp [size_madeCells])
  case round =>
    obtain ⟨j, hj, rfl, HF, hb⟩ := hrel
    by_cases hlt : j < l.length
    · obtain ⟨b, off, rfl, _, hcs⟩ := hrest (List.ne_nil_of_length_pos (by omega))
      obtain ⟨c0, hs⟩ := hcs j hlt
      have c1 : wr.cell? ⟨b, off + j, none⟩ = some (.string l[j]) := (Keeps.of_below hb (Nat.le_refl _) 0).cell (Nat.zero_le _) c0
      obtain ⟨⟨x0, s0⟩, z0⟩ := HF.slot hlt (q := 0) (by omega)
      rw [Nat.add_zero, Nat.mul_one] at s0 z0
      have HF2 : Hid (Filled (wr.setCells w.heap.size (j * 1) [.string l[j]]) w.heap.size 1 9 StrR l (j + 1)) := HF.put hlt [.string l[j]] rfl (fun _ _ h => h) ⟨rfl, hs⟩
      have HB2 : Hid (Below w.heap.size w (wr.setCells w.heap.size (j * 1) [.string l[j]])) := Below.setCells (Nat.le_refl _) _ _ hb
      rw [Nat.mul_one] at HF2 HB2
      clear hcs hrest c0 HF hb
      go_wp2_with fail
      exact ⟨⟨j + 1, by omega, by go_num, HF2, HB2⟩, by simp [intOf]; omega⟩
    · obtain rfl : j = l.length := by omega
      go_wp2_with fail
      go_ret
      exact ⟨_, rfl, HF.row (Nat.le_refl _) hw (by unfold maxLen; omega) (fun _ _ h => h), hb⟩

set_option maxHeartbeats 400000 in
theorem eqStringS_any (l : List ByteArray) (v v' : Value) (w : World) (hrow : StrRow w 0 l v) (hrow' : StrRow w 0 l v') :
    Calls Try.prog 38 #[v, v'] w fun e w' => e = .returned (.bool true) ∧ Below w.heap.size w w' := by
  obtain ⟨a, cap, rfl, hw, hrest⟩ := hrow.len
  obtain ⟨a', cap', rfl, _, hrest'⟩ := hrow'.len
  have hlen : (l.length : Int) ≤ 140737488351232 := by omega
  clear hrow hrow'
  go_enter Try.func38, Try.ntmps38
  go_wp2_with fail
  go_loopw [5] (fun i wr => ∃ j : Nat, j ≤ l.length ∧ i = .int .i64 j ∧ Below w.heap.size w wr) (fun i _ => l.length - (intOf i).toNat)
  case atStart => exact ⟨0, Nat.zero_le _, rfl, Below.refl _ _⟩
  case round =>
    obtain ⟨j, hj, rfl, hb⟩ := hrel
    by_cases hlt : j < l.length
    · obtain ⟨b, off, rfl, _, hcs⟩ := hrest (List.ne_nil_of_length_pos (by omega))
      obtain ⟨c0, _⟩ := hcs j hlt
      obtain ⟨b', off', rfl, _, hcs'⟩ := hrest' (List.ne_nil_of_length_pos (by omega))
      obtain ⟨c0', _⟩ := hcs' j hlt
      have c1 : wr.cell? ⟨b, off + j, none⟩ = some (.string l[j]) := (Keeps.of_below hb (Nat.le_refl _) 0).cell (Nat.zero_le _) c0
      have c1' : wr.cell? ⟨b', off' + j, none⟩ = some (.string l[j]) := (Keeps.of_below hb (Nat.le_refl _) 0).cell (Nat.zero_le _) c0'
      clear hcs hrest hcs' hrest' c0 c0'
      go_wp2_with fail
      go_region_with (fail)
      all_goals
        go_wp2_with fail
        exact ⟨⟨j + 1, by omega, by go_num, hb.drew⟩, by simp [intOf]; omega⟩
    · go_wp2_with fail
      go_ret
      exact ⟨rfl, hb⟩

end Go.Proofs.Ytdaohfeajicamaa
