
/-
  DERIVED. THE WALKS OF laws.szStringS, laws.toStringS, laws.eqStringS.
-/
import Derived.Test.YtaklmcmcgeebiaaRows
import Derived.Test.YtaklmcmcgeebiaaRepV
import Derived.Test.YtaklmcmcgeebiaaVlInfo
import Derived.WalkKit
import Derived.WalkSpells
import Derived.WalkLawsBesides
import Derived.Deep.RegionWith
import Derived.BigQuiet
namespace Go.Proofs.Ytaklmcmcgeebiaa
open Go.RowKit
set_option linter.unusedVariables false
set_option linter.unusedSimpArgs false

/-- What a size answers: no more than it was given, and -1 at least. -/
def SzPost (left : Int) (w : World) (e : Ending) (w' : World) : Prop := ∃ r : Int, e = .returned (.int .i64 r) ∧ -1 ≤ r ∧ r ≤ left ∧ Below w.heap.size w w'

set_option maxHeartbeats 400000 in
theorem eqStringS_any (l : List ByteArray) (v v' : Value) (w : World) (hrow : StrRow w 0 l v) (hrow' : StrRow w 0 l v') :
    Calls Try.prog 12 #[v, v'] w fun e w' => e = .returned (.bool true) ∧ Below w.heap.size w w' := by
  obtain ⟨a, cap, rfl, hw, hrest⟩ := hrow.len
  obtain ⟨a', cap', rfl, _, hrest'⟩ := hrow'.len
  have hlen : (l.length : Int) ≤ 140737488351232 := by omega
  clear hrow hrow'
  go_enter Try.func12, Try.ntmps12
  go_wp2_with fail
  go_loopw [5] (fun i wr => ∃ j : Nat, j ≤ l.length ∧ i = .int .i64 j ∧ Below w.heap.size w wr) (fun i _ => l.length - (intOf i).toNat)
  case atStart => exact ⟨0, Nat.zero_le _, rfl, Below.refl _ _⟩
  case round =>
    obtain ⟨j, hj, rfl, hb⟩ := hrel
    by_cases hlt : j < l.length
    · obtain ⟨b, off, rfl, _, hcs⟩ := hrest (List.ne_nil_of_length_pos (by omega))
      obtain ⟨c0, _⟩ := hcs j hlt
      obtain ⟨b', off', rfl, _, hcs'⟩ := hrest' (List.ne_nil_of_length_pos (by omega))
      obtain ⟨c0', _⟩ := hcs' j hlt
      have c1 : wr.cell? ⟨b, off + j, none⟩ = some (.string l[j]) := (Keeps.of_below hb (Nat.le_refl _) 0).cell (Nat.zero_le _) c0
      have c1' : wr.cell? ⟨b', off' + j, none⟩ = some (.string l[j]) := (Keeps.of_below hb (Nat.le_refl _) 0).cell (Nat.zero_le _) c0'
      clear hcs hrest hcs' hrest' c0 c0'
      go_wp2_with fail
      go_region_with (fail)
      all_goals
        go_wp2_with fail
        exact ⟨⟨j + 1, by omega, by go_num, hb.drew⟩, by simp [intOf]; omega⟩
    · go_wp2_with fail
      go_ret
      exact ⟨rfl, hb⟩

end Go.Proofs.Ytaklmcmcgeebiaa
