
/-
  DERIVED. THE WALKS OF slices.Equal (of texts), sameOutside, placeOf.
-/
import Derived.Test.YtegnalfkdponhaaDoorSmP
import Derived.Test.YtegnalfkdponhaaDoorVlInfo
import Derived.WalkSpells
import Derived.WalkLawsBesides
import Derived.Deep.QuietTactic
import Derived.BigQuiet
import Derived.Deep.RegionWith
namespace Go.Proofs.YtegnalfkdponhaaDoor
open Go.RowKit
set_option linter.unusedVariables false
set_option linter.unusedSimpArgs false

def TellsB (p : Prop) (w : World) (e : Ending) (w' : World) : Prop := ∃ b : Bool, e = .returned (.bool b) ∧ (b = true ↔ p) ∧ Below w.heap.size w w'
theorem TellsB.no {p : Prop} {w w' : World} (h : ¬ p) (hb : Below w.heap.size w w') : TellsB p w (.returned (.bool false)) w' := ⟨false, rfl, by simp [h], hb⟩
theorem TellsB.yes {p : Prop} {w w' : World} (h : p) (hb : Below w.heap.size w w') : TellsB p w (.returned (.bool true)) w' := ⟨true, rfl, by simp [h], hb⟩
theorem text_ne {a b : ByteArray} (h : a ≠ b) : (a.toList == b.toList) = false := by
  rw [beq_eq_false_iff_ne]; intro e; exact h (by rw [ByteArray.toList_eq, ByteArray.toList_eq] at e; exact ByteArray.ext (Array.toList_inj.1 e))

set_option maxHeartbeats 1000000 in
theorem equalS_any (l l' : List ByteArray) (v v' : Value) (w : World) (hrow : StrRow w 0 l v) (hrow' : StrRow w 0 l' v') :
    Calls Tryd.prog 61 #[v, v'] w (TellsB (l = l') w) := by
  obtain ⟨a, cap, rfl, hw, hrest⟩ := hrow.len
  obtain ⟨a', cap', rfl, hw', hrest'⟩ := hrow'.len
  have hlen : (l.length : Int) ≤ 140737488351232 := by omega
  clear hrow hrow'
  have HN : Hid _ := hrest
  have HN' : Hid _ := hrest'
  clear hrest hrest'
  by_cases he : l.length = l'.length
  rotate_left
  · have he' : ¬ (l.length : Int) = (l'.length : Int) := by omega
    go_enter Tryd.func61, Tryd.ntmps61
    go_wp2_with fail
    go_ret
    exact TellsB.no (fun h => he (by rw [h])) (Below.refl _ _)
  have HE : Hid (l.length = l'.length) := he
  rw [← he]
  clear he
  go_enter Tryd.func61, Tryd.ntmps61
  go_wp2_with fail
  go_loopw [13] (fun i wr => ∃ j : Nat, j ≤ l.length ∧ i = .int .i64 j ∧ Hid (l.take j = l'.take j) ∧ Hid (Below w.heap.size w wr)) (fun i _ => l.length - (intOf i).toNat)
  case atStart => exact ⟨0, Nat.zero_le _, rfl, (by show _ = _; simp), Below.refl _ _⟩
  case round =>
    obtain ⟨j, hj, rfl, HT, HB⟩ := hrel
    by_cases hlt : j < l.length
    · obtain ⟨b, off, hab, _, hcs⟩ := HN.out (List.ne_nil_of_length_pos (by omega))
      obtain ⟨c0, _⟩ := hcs j hlt
      have hlt' : j < l'.length := by have := HE.out; omega
      obtain ⟨b', off', hab', _, hcs'⟩ := HN'.out (List.ne_nil_of_length_pos (by omega))
      obtain ⟨c0', _⟩ := hcs' j hlt'
      subst hab hab'
      have c1 : wr.cell? ⟨b, off + j, none⟩ = some (.string l[j]) := (Keeps.of_below HB.out (Nat.le_refl _) 0).cell (Nat.zero_le _) c0
      have c1' : wr.cell? ⟨b', off' + j, none⟩ = some (.string l'[j]) := (Keeps.of_below HB.out (Nat.le_refl _) 0).cell (Nat.zero_le _) c0'
      clear hcs hcs' c0 c0' HN HN'
      by_cases hej : l[j] = l'[j]
      · have HX : Hid (l.take (j + 1) = l'.take (j + 1)) := by show _ = _; rw [List.take_succ_eq_append_getElem hlt, List.take_succ_eq_append_getElem hlt', HT.out, hej]
        rw [← hej] at c1'
        clear hej
        go_wp2_with fail
        go_region
        go_wp2_with fail
        exact ⟨⟨j + 1, by omega, by go_num, HX, HB.out.drew⟩, by simp [intOf]; omega⟩
      · have hx := text_ne hej
        have HX : Hid (¬ l = l') := fun h => hej (by subst h; rfl)
        clear hej
        go_wp2_with fail
        go_region
        go_wp2_with fail
        go_ret
        exact TellsB.no HX.out HB.out.drew
    · obtain rfl : j = l.length := by omega
      have HX : Hid (l = l') := by have h := HT.out; have h4 := HE.out; rw [List.take_length, h4, List.take_length] at h; exact h
      go_wp2_with fail
      go_ret
      exact TellsB.yes HX.out HB.out

theorem two_belowO (w : World) (o o' : Obj) : Below w.heap.size w ((w.alloc o).alloc o') := ((Below.refl _ _).alloc (Nat.le_refl _) _).alloc (by simp) _

set_option maxHeartbeats 2000000 in
theorem sameOut_any (t u : Vl) (a a' : Option Addr) (c c' : Nat) (vn vn' : Value) (w : World) (hn : StrRow w 0 t.names vn) (hn' : StrRow w 0 u.names vn') (hl : t.list.length ≤ 140737488351232) (hl' : u.list.length ≤ 140737488351232) :
    Calls Tryd.prog 35 #[.agg #[.int .i64 t.kind, .int .i64 t.num, .string t.text, .slice a t.list.length c, vn], .agg #[.int .i64 u.kind, .int .i64 u.num, .string u.text, .slice a' u.list.length c', vn']] w (TellsB (Out t u) w) := by
  obtain ⟨m, d, rfl, hx, _⟩ := StrRow.len hn
  obtain ⟨m', d', rfl, hx', _⟩ := StrRow.len hn'
  have HN : Hid _ := hn
  have HN' : Hid _ := hn'
  clear hn hn'
  have hli : (t.list.length : Int) ≤ 140737488351232 := by omega
  by_cases e0 : t.kind = u.kind
  rotate_left
  · have e0' : (t.kind == u.kind) = false := by simp [e0]
    go_enter Tryd.func35, Tryd.ntmps35
    go_wp2_with fail
    go_ret
    exact TellsB.no (fun h => e0 h.1) (two_belowO _ _ _)
  by_cases e1 : t.num = u.num
  rotate_left
  · have e1' : (t.num == u.num) = false := by simp [e1]
    rw [← e0]
    go_enter Tryd.func35, Tryd.ntmps35
    go_wp2_with fail
    go_ret
    exact TellsB.no (fun h => e1 h.2.1) (two_belowO _ _ _)
  by_cases e2 : t.text = u.text
  rotate_left
  · have e2' := text_ne e2
    rw [← e0, ← e1]
    go_enter Tryd.func35, Tryd.ntmps35
    go_wp2_with fail
    go_ret
    exact TellsB.no (fun h => e2 h.2.2.1) (two_belowO _ _ _)
  by_cases e3 : t.list.length = u.list.length
  rotate_left
  · have e3' : ((t.list.length : Int) == (u.list.length : Int)) = false := by simp; omega
    rw [← e0, ← e1, ← e2]
    go_enter Tryd.func35, Tryd.ntmps35
    go_wp2_with fail
    go_ret
    exact TellsB.no (fun h => e3 h.2.2.2.1) (two_belowO _ _ _)
  have HE : Hid (t.names = u.names → Out t u) := fun h => ⟨e0, e1, e2, e3, h⟩
  rw [← e0, ← e1, ← e2, ← e3]
  clear e0 e1 e2 e3
  go_enter Tryd.func35, Tryd.ntmps35
  go_wp2_with fail
  refine (equalS_any t.names u.names _ _ _ (StrRow.keeps (((Keeps.refl _ _).alloc _).alloc _) HN.out) (StrRow.keeps (((Keeps.refl _ _).alloc _).alloc _) HN'.out)).mono ?_
  rintro e w1 ⟨b, rfl, hb, hb1⟩
  have HB : Hid (Below w.heap.size w w1) := (two_belowO _ _ _).trans (hb1.mono (by simp <;> omega))
  have HH : Hid (b = true ↔ t.names = u.names) := hb
  clear hb1 hb
  cases b
  · go_wp2_with fail
    go_ret
    exact TellsB.no (fun h => by have := HH.out.2 h.2.2.2.2; simp at this) HB.out
  · go_wp2_with fail
    go_ret
    exact TellsB.yes (HE.out (by have := HH.out; simpa using this)) HB.out

set_option maxHeartbeats 400000 in
theorem placeOf_any (b off n c : Nat) (W : World) (h1 : 1 ≤ n) (h2 : n ≤ 140737488351232) :
    Calls Tryd.prog 36 #[.slice (some ⟨b, off, none⟩) n c] W fun e W' => e = .returned (.agg #[.pointer (some ⟨b, off, none⟩), .int .i64 (n : Int)]) ∧ W' = W.alloc (.cells #[.pointer (some ⟨b, off, none⟩), .int .i64 (n : Int)] 68) := by
  have hn : (0 : Int) < (n : Int) := by omega
  have hn2 : (n : Int) ≤ 140737488351232 := by omega
  go_enter Tryd.func36, Tryd.ntmps36
  go_wp2_with fail
  exact bodyPost_ret (v := .agg #[.pointer (some ⟨b, off, none⟩), .int .i64 (n : Int)]) (by simp [results, Tryd.results36, go_sem]; try rfl) rfl ⟨rfl, rfl⟩

end Go.Proofs.YtegnalfkdponhaaDoor
