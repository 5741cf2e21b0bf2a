
/-
  DERIVED. THE WALKS OF laws.szStringS, laws.toStringS, laws.eqStringS.
-/
import Derived.Test.YtdaohfeajicamaaRows
import Derived.Test.YtdaohfeajicamaaRepV
import Derived.Test.YtdaohfeajicamaaVlInfo
import Derived.WalkKit
import Derived.WalkSpells
import Derived.WalkLawsBesides
import Derived.Deep.RegionWith
import Derived.BigQuiet
import Derived.Test.YtdaohfeajicamaaVlOwn
namespace Go.Proofs.Ytdaohfeajicamaa
open Go.RowKit
set_option linter.unusedVariables false
set_option linter.unusedSimpArgs false

/-- What a size answers: no more than it was given, and -1 at least. -/
def SzPost (left : Int) (w : World) (e : Ending) (w' : World) : Prop := ∃ r : Int, e = .returned (.int .i64 r) ∧ -1 ≤ r ∧ r ≤ left ∧ Below w.heap.size w w'

set_option maxHeartbeats 400000 in
theorem szStringS_any (l : List ByteArray) (v : Value) (left : Int) (w : World) (hrow : StrRow w 0 l v) (h0 : 0 ≤ left) (h1 : left ≤ 1048576) :
    Calls Try.prog 31 #[v, .int .i64 left] w (SzPost left w) := by
  obtain ⟨a, cap, rfl, hw, hrest⟩ := hrow.len
  have hlen : (l.length : Int) ≤ 140737488351232 := by omega
  clear hrow
  by_cases hneg : left - (l.length : Int) < 0
  · go_enter Try.func31, Try.ntmps31
    go_wp2_with fail
    go_ret
    exact ⟨_, rfl, by omega, by omega, Below.refl _ _⟩
  · go_enter Try.func31, Try.ntmps31
    go_wp2_with fail
    go_loop [1, 5] (fun lf i => ∃ (j : Nat) (r : Int), j ≤ l.length ∧ i = .int .i64 j ∧ lf = .int .i64 r ∧ 0 ≤ r ∧ r ≤ left) (fun _ i => l.length - (intOf i).toNat)
    case atStart => exact ⟨0, _, Nat.zero_le _, rfl, rfl, by omega, by omega⟩
    case round =>
      obtain ⟨j, r, hj, rfl, rfl, hr0, hr1⟩ := hrel
      by_cases hlt : j < l.length
      · obtain ⟨b, off, rfl, _, hcs⟩ := hrest (List.ne_nil_of_length_pos (by omega))
        obtain ⟨c0, hs⟩ := hcs j hlt
        clear hcs hrest
        by_cases hn : r - (l[j].size : Int) < 0
        · go_wp2_with fail
          go_ret
          exact ⟨_, rfl, by omega, by omega, Below.refl _ _⟩
        · go_wp2_with fail
          exact ⟨⟨j + 1, _, by omega, by go_num, rfl, by omega, by omega⟩, by simp [intOf]; omega⟩
      · go_wp2_with fail
        go_ret
        exact ⟨_, rfl, by omega, by omega, Below.refl _ _⟩

set_option maxHeartbeats 400000 in
theorem toStringS_any (l : List ByteArray) (v : Value) (w : World) (hrow : StrRow w 0 l v) :
    Calls Try.prog 34 #[v] w fun e w' => ∃ v', e = .returned v' ∧ StrRow w' w.heap.size l v' ∧ Below w.heap.size w w' := by
  obtain ⟨a, cap, rfl, hw, hrest⟩ := hrow.len
  have hlen : (l.length : Int) ≤ 140737488351232 := by omega
  obtain ⟨i, hi, hz, hs, hby⟩ := info_string
  have hmk := run_make (P := Try.prog) w 23 9 i _ Try.underlying23 hi hz .i64 .i64 (l.length : Int) (l.length : Int) (by omega) (by omega) (by rw [hby]; omega) (by omega)
  rw [hs, Int.toNat_natCast] at hmk
  clear hi hz hs hby hrow
  go_enter Try.func34, Try.ntmps34
  go_wp2_with fail
  clear hmk
  go_loopw [4] (fun i wr => ∃ j : Nat, j ≤ l.length ∧ i = .int .i64 j ∧ Filled wr w.heap.size 1 9 StrR l j ∧ Below w.heap.size w wr) (fun i _ => l.length - (intOf i).toNat)
  case atStart =>
    refine ⟨0, Nat.zero_le _, rfl, ?_, (Below.refl _ _).alloc (Nat.le_refl _) _⟩
    exact Filled.made w 1 9 _ l _ (by simp [size_madeCells])
  case round =>
    obtain ⟨j, hj, rfl, HF, hb⟩ := hrel
    by_cases hlt : j < l.length
    · obtain ⟨b, off, rfl, _, hcs⟩ := hrest (List.ne_nil_of_length_pos (by omega))
      obtain ⟨c0, hs⟩ := hcs j hlt
      have c1 : wr.cell? ⟨b, off + j, none⟩ = some (.string l[j]) := (Keeps.of_below hb (Nat.le_refl _) 0).cell (Nat.zero_le _) c0
      obtain ⟨⟨x0, s0⟩, z0⟩ := HF.slot hlt (q := 0) (by omega)
      rw [Nat.add_zero, Nat.mul_one] at s0 z0
      have HF2 : Hid (Filled (wr.setCells w.heap.size (j * 1) [.string l[j]]) w.heap.size 1 9 StrR l (j + 1)) := HF.put hlt [.string l[j]] rfl (fun _ _ h => h) ⟨rfl, hs⟩
      have HB2 : Hid (Below w.heap.size w (wr.setCells w.heap.size (j * 1) [.string l[j]])) := Below.setCells (Nat.le_refl _) _ _ hb
      rw [Nat.mul_one] at HF2 HB2
      clear hcs hrest c0 HF hb
      go_wp2_with fail
      exact ⟨⟨j + 1, by omega, by go_num, HF2, HB2⟩, by simp [intOf]; omega⟩
    · obtain rfl : j = l.length := by omega
      go_wp2_with fail
      go_ret
      exact ⟨_, rfl, HF.row (Nat.le_refl _) hw (by unfold maxLen; omega) (fun _ _ h => h), hb⟩

set_option maxHeartbeats 400000 in
theorem eqStringS_any (l : List ByteArray) (v v' : Value) (w : World) (hrow : StrRow w 0 l v) (hrow' : StrRow w 0 l v') :
    Calls Try.prog 38 #[v, v'] w fun e w' => e = .returned (.bool true) ∧ Below w.heap.size w w' := by
  obtain ⟨a, cap, rfl, hw, hrest⟩ := hrow.len
  obtain ⟨a', cap', rfl, _, hrest'⟩ := hrow'.len
  have hlen : (l.length : Int) ≤ 140737488351232 := by omega
  clear hrow hrow'
  go_enter Try.func38, Try.ntmps38
  go_wp2_with fail
  go_loopw [5] (fun i wr => ∃ j : Nat, j ≤ l.length ∧ i = .int .i64 j ∧ Below w.heap.size w wr) (fun i _ => l.length - (intOf i).toNat)
  case atStart => exact ⟨0, Nat.zero_le _, rfl, Below.refl _ _⟩
  case round =>
    obtain ⟨j, hj, rfl, hb⟩ := hrel
    by_cases hlt : j < l.length
    · obtain ⟨b, off, rfl, _, hcs⟩ := hrest (List.ne_nil_of_length_pos (by omega))
      obtain ⟨c0, _⟩ := hcs j hlt
      obtain ⟨b', off', rfl, _, hcs'⟩ := hrest' (List.ne_nil_of_length_pos (by omega))
      obtain ⟨c0', _⟩ := hcs' j hlt
      have c1 : wr.cell? ⟨b, off + j, none⟩ = some (.string l[j]) := (Keeps.of_below hb (Nat.le_refl _) 0).cell (Nat.zero_le _) c0
      have c1' : wr.cell? ⟨b', off' + j, none⟩ = some (.string l[j]) := (Keeps.of_below hb (Nat.le_refl _) 0).cell (Nat.zero_le _) c0'
      clear hcs hrest hcs' hrest' c0 c0'
      go_wp2_with fail
      go_region_with (fail)
      all_goals
        go_wp2_with fail
        exact ⟨⟨j + 1, by omega, by go_num, hb.drew⟩, by simp [intOf]; omega⟩
    · go_wp2_with fail
      go_ret
      exact ⟨rfl, hb⟩

end Go.Proofs.Ytdaohfeajicamaa

namespace Go.Proofs.Ytdaohfeajicamaa
open Go.RowKit
set_option linter.unusedVariables false
set_option linter.unusedSimpArgs false

set_option maxHeartbeats 1000000 in
theorem toStringS_own (l : List ByteArray) (v : Value) (w : World) (hrow : StrRow w 0 l v) :
    Calls Try.prog 34 #[v] w fun e w' => ∃ v', e = .returned v' ∧ OwnRow w' 9 1 16 StrO 0 0 l v' ∧ (∀ b, At v' b → b = w.heap.size ∧ w.heap.size < w'.heap.size) ∧ Below w.heap.size w w' := by
  obtain ⟨a, cap, rfl, hw, hrest⟩ := hrow.len
  have hlen : (l.length : Int) ≤ 140737488351232 := by omega
  obtain ⟨i, hi, hz, hs, hby⟩ := info_string
  have hmk := run_make (P := Try.prog) w 23 9 i _ Try.underlying23 hi hz .i64 .i64 (l.length : Int) (l.length : Int) (by omega) (by omega) (by rw [hby]; omega) (by omega)
  rw [hs, Int.toNat_natCast] at hmk
  clear hi hz hs hby hrow
  go_enter Try.func34, Try.ntmps34
  go_wp2_with fail
  clear hmk
  go_loopw [4] (fun i wr => ∃ j : Nat, j ≤ l.length ∧ i = .int .i64 j ∧ FilledO wr w.heap.size 1 9 StrO 0 0 l j ∧ Below w.heap.size w wr) (fun i _ => l.length - (intOf i).toNat)
  case atStart =>
    refine ⟨0, Nat.zero_le _, rfl, ?_, (Below.refl _ _).alloc (Nat.le_refl _) _⟩
    exact FilledO.made (Owns.made w _ 9) (by simp [size_madeCells]) (Nat.le_refl _)
  case round =>
    obtain ⟨j, hj, rfl, HF, hb⟩ := hrel
    by_cases hlt : j < l.length
    · obtain ⟨b, off, rfl, _, hcs⟩ := hrest (List.ne_nil_of_length_pos (by omega))
      obtain ⟨c0, hs⟩ := hcs j hlt
      have c1 : wr.cell? ⟨b, off + j, none⟩ = some (.string l[j]) := (Keeps.of_below hb (Nat.le_refl _) 0).cell (Nat.zero_le _) c0
      obtain ⟨⟨x0, s0⟩, z0⟩ := HF.slot hlt (q := 0) (by omega)
      rw [Nat.add_zero, Nat.mul_one] at s0 z0
      have HF2 : Hid (FilledO (wr.setCells w.heap.size (j * 1) [.string l[j]]) w.heap.size 1 9 StrO 0 0 l (j + 1)) := HF.put hlt (Nat.le_refl _) [.string l[j]] rfl (fun _ _ _ _ _ _ h => h) (fun _ _ _ => ⟨rfl, hs⟩)
      have HB2 : Hid (Below w.heap.size w (wr.setCells w.heap.size (j * 1) [.string l[j]])) := Below.setCells (Nat.le_refl _) _ _ hb
      rw [Nat.mul_one] at HF2 HB2
      clear hcs hrest c0 HF hb
      go_wp2_with fail
      exact ⟨⟨j + 1, by omega, by go_num, HF2, HB2⟩, by simp [intOf]; omega⟩
    · obtain rfl : j = l.length := by omega
      go_wp2_with fail
      go_ret
      exact ⟨_, rfl, HF.row (Or.inr (Nat.zero_le _)) hw, fun b hb => ⟨hb.eq, HF.lt⟩, hb⟩

def ToVlO (k : Nat) : Prop := ∀ (t : Vl) (vl vn : Value) (w : World), VlR w 0 k t [.int .i64 t.kind, .int .i64 t.num, .string t.text, vl, vn] →
  Calls Try.prog 11 #[.agg #[.int .i64 t.kind, .int .i64 t.num, .string t.text, vl, vn]] w fun e w' =>
    ∃ vl' vn', e = .returned (.agg #[.int .i64 t.kind, .int .i64 t.num, .string t.text, vl', vn']) ∧ VlO w' k w.heap.size w'.heap.size t [.int .i64 t.kind, .int .i64 t.num, .string t.text, vl', vn'] ∧ Below w.heap.size w w'
def ToVlSO (k : Nat) : Prop := ∀ (l : List Vl) (v : Value) (w : World), Row w 0 5 80 (VlR w 0 k) l v →
  Calls Try.prog 33 #[v] w fun e w' => ∃ v', e = .returned v' ∧ OwnRow w' 29 5 80 (VlO w' k) (w.heap.size + 1) w'.heap.size l v' ∧ (∀ b, At v' b → b = w.heap.size ∧ w.heap.size < w'.heap.size) ∧ Below w.heap.size w w'

theorem VlO.below {k lo hi : Nat} {w w' : World} {t : Vl} {cs : List Value} (h : VlO w k lo hi t cs) (hh : hi ≤ w.heap.size) (hb : Below w.heap.size w w') : VlO w' k lo hi t cs :=
  VlO.same k lo hi t cs (fun b _ h2 => hb.block b (by omega)) h

theorem setCells_other {b : Nat} : ∀ (cs : List Value) (o : Nat) (w : World) (k : Nat), k ≠ b → (w.setCells b o cs).heap[k]? = w.heap[k]?
  | [], _, _, _, _ => rfl
  | v :: r, o, w, k, h => by
    show ((w.setCell ⟨b, o, none⟩ v).setCells b (o + 1) r).heap[k]? = _
    rw [setCells_other r (o + 1) _ k h, Below.heap_setCell _ _ _ _ h]

set_option maxHeartbeats 1000000 in
theorem toValueS_own (k : Nat) (hT : ToVlO k) : ToVlSO k := by
  intro l v w hrow
  obtain ⟨a, cap, rfl, hw, hrest⟩ := hrow.len
  have hlen : (l.length : Int) ≤ 140737488351232 := by omega
  obtain ⟨i, hi, hz, hs, hby⟩ := info_impl_Value
  have hmk := run_make (P := Try.prog) w 27 29 i _ Try.underlying27 hi hz .i64 .i64 (l.length : Int) (l.length : Int) (by omega) (by omega) (by rw [hby]; omega) (by omega)
  rw [hs, Int.toNat_natCast] at hmk
  clear hi hz hs hby hrow
  go_enter Try.func33, Try.ntmps33
  go_wp2_with fail
  clear hmk
  go_loopw [4] (fun i wr => ∃ j : Nat, j ≤ l.length ∧ i = .int .i64 j ∧ FilledO wr w.heap.size 5 29 (VlO wr k) (w.heap.size + 1) wr.heap.size l j ∧ Below w.heap.size w wr) (fun i _ => l.length - (intOf i).toNat)
  case atStart => exact ⟨0, Nat.zero_le _, rfl, FilledO.made (Owns.made w _ 29) (size_madeCells _ _) (by simp), (Below.refl _ _).alloc (Nat.le_refl _) _⟩
  case round =>
    obtain ⟨j, hj, rfl, HF, hb⟩ := hrel
    by_cases hlt : j < l.length
    · obtain ⟨b, off, rfl, _, hcs⟩ := hrest (List.ne_nil_of_length_pos (by omega))
      obtain ⟨cs, hl3, hc, hR⟩ := hcs j hlt
      obtain ⟨p, n, p', n', rfl⟩ := hR.cells
      have hk : Keeps 0 w wr := Keeps.of_below hb (Nat.le_refl _) _
      obtain ⟨c0, c1, c2, c3, c4⟩ := (hc.keeps hk (Nat.zero_le _)).five
      have HR : Hid (VlR wr 0 k l[j] [.int .i64 l[j].kind, .int .i64 l[j].num, .string l[j].text, .slice p l[j].list.length n, .slice p' l[j].names.length n']) := VlR.keeps hk k _ _ hR
      clear hc hR hcs hrest
      go_wp2_with fail
      refine (hT _ _ _ _ HR.out).mono ?_
      rintro e w1 ⟨vl', vn', rfl, hR1, hb1⟩
      obtain ⟨p1, n1, p1', n1', hv1⟩ := hR1.cells
      simp only [List.cons.injEq, true_and, and_true] at hv1
      obtain ⟨rfl, rfl⟩ := hv1
      have hlt0 := HF.lt
      have HF1 : FilledO w1 w.heap.size 5 29 (VlO w1 k) (w.heap.size + 1) wr.heap.size l j := HF.same (Nat.le_refl _) (hb1.block _ hlt0) (fun a b x cs _ hb' hx => hx.below hb' hb1)
      obtain ⟨⟨x0, s0⟩, z0⟩ := HF1.slot hlt (q := 0) (by omega)
      obtain ⟨⟨x1, s1⟩, z1⟩ := HF1.slot hlt (q := 1) (by omega)
      obtain ⟨⟨x2, s2⟩, z2⟩ := HF1.slot hlt (q := 2) (by omega)
      obtain ⟨⟨x3, s3⟩, z3⟩ := HF1.slot hlt (q := 3) (by omega)
      obtain ⟨⟨x4, s4⟩, z4⟩ := HF1.slot hlt (q := 4) (by omega)
      rw [Nat.add_zero] at s0 z0
      have hsz1 := hb1.size
      have HF2 : Hid (FilledO (w1.setCells w.heap.size (j * 5) [.int .i64 l[j].kind, .int .i64 l[j].num, .string l[j].text, .slice p1 l[j].list.length n1, .slice p1' l[j].names.length n1']) w.heap.size 5 29
          (VlO (w1.setCells w.heap.size (j * 5) [.int .i64 l[j].kind, .int .i64 l[j].num, .string l[j].text, .slice p1 l[j].list.length n1, .slice p1' l[j].names.length n1']) k) (w.heap.size + 1) w1.heap.size l (j + 1)) :=
        HF1.put hlt hsz1 _ rfl (fun a b x cs ha _ hx => VlO.same k a b x cs (fun b' h1 _ => setCells_other _ _ _ _ (by omega)) hx)
          (fun a ha1 ha2 => VlO.same k _ _ _ _ (fun b' h1 _ => setCells_other _ _ _ _ (by omega)) (VlO.wide ha2 (Nat.le_refl _) k _ _ hR1))
      have hsz2 : (w1.setCells w.heap.size (j * 5) [.int .i64 l[j].kind, .int .i64 l[j].num, .string l[j].text, .slice p1 l[j].list.length n1, .slice p1' l[j].names.length n1']).heap.size = w1.heap.size := by
        simp [World.setCells, World.setCell]
      rw [← hsz2] at HF2
      have HB2 : Hid (Below w.heap.size w (w1.setCells w.heap.size (j * 5) [.int .i64 l[j].kind, .int .i64 l[j].num, .string l[j].text, .slice p1 l[j].list.length n1, .slice p1' l[j].names.length n1'])) :=
        Below.setCells (Nat.le_refl _) _ _ (hb.trans (hb1.mono hb.size))
      clear HF1 HF HR hb1 hR1 c0 c1 c2 c3 c4 hk hb hsz2
      go_wp2_with fail
      exact ⟨⟨j + 1, by omega, by go_num, HF2, HB2⟩, by simp [intOf]; omega⟩
    · obtain rfl : j = l.length := by omega
      go_wp2_with fail
      go_ret
      exact ⟨_, rfl, HF.row (Or.inl (Nat.lt_succ_self _)) hw, fun b hb => ⟨hb.eq, HF.lt⟩, hb⟩

theorem size_alloc3 (w : World) (o o' o'' : Obj) : (((w.alloc o).alloc o').alloc o'').heap.size = w.heap.size + 3 := by simp

set_option maxHeartbeats 1000000 in
theorem toValue_own (k : Nat) (hS : ToVlSO k) : ToVlO (k + 1) := by
  intro t vl vn w ht
  obtain ⟨vl', vn', hv, hkd, hnm, hn, hrow, hnames⟩ := ht
  simp only [List.cons.injEq, true_and, and_true] at hv
  obtain ⟨rfl, rfl⟩ := hv
  have HR : Hid (∀ W, Keeps 0 w W → Row W 0 5 80 (VlR W 0 k) t.list vl) := fun W h => VlRow.keeps h hrow
  have HN : Hid (∀ W, Keeps 0 w W → StrRow W 0 t.names vn) := fun W h => hnames.keeps h
  clear hrow hnames
  go_enter Try.func11, Try.ntmps11
  go_wp2_with fail
  refine (hS t.list vl _ (HR.out _ ((((Keeps.refl _ _).alloc _).alloc _).alloc _))).mono ?_
  rintro e w1 ⟨v', rfl, hR1, hA1, hb1⟩
  obtain ⟨a', hv', hw1⟩ := hR1.len
  subst hv'
  obtain ⟨hc, hf⟩ := bcell hb1
  have hz : w.heap.size + 1 + 1 < w1.heap.size := by have := hb1.size; simp at this; omega
  have hz1 : w.heap.size + 1 < w1.heap.size := by omega
  have hz0 : w.heap.size < w1.heap.size := by omega
  have HR1 : Hid (∀ W, (∀ b, w.heap.size + 3 ≤ b → b < w1.heap.size → W.heap[b]? = w1.heap[b]?) → OwnRow W 29 5 80 (VlO W k) (w.heap.size + 4) w1.heap.size t.list (.slice a' t.list.length t.list.length)) := fun W h => by
    rw [size_alloc3] at hR1 hA1
    exact hR1.same (fun b hb => h b (by have := hA1 b hb; omega) (by have := hA1 b hb; omega)) (fun a b x cs ha hb' hx => VlO.same k a b x cs (fun b' h1 h2 => h b' (by omega) (by omega)) hx)
  have HA1 : Hid (∀ b, At (.slice a' t.list.length t.list.length) b → b = w.heap.size + 3 ∧ w.heap.size + 3 < w1.heap.size) := fun b hb => by have := hA1 b hb; rw [size_alloc3] at this; exact this
  have HB : Hid (Below w.heap.size w w1) := ((((Below.refl _ _).alloc (Nat.le_refl _) _).alloc (by simp) _).alloc (by simp; omega) _).trans (hb1.mono (by simp; omega))
  clear hR1 hb1 hA1
  go_wp2_with fail
  have hbs : Below w.heap.size w (w1.setCell ⟨w.heap.size + 1 + 1, 3, none⟩ (.slice a' t.list.length t.list.length)) := HB.out.setCell (by simp; omega) _
  refine (toStringS_own t.names vn _ (HN.out _ (Keeps.of_below hbs (Nat.le_refl _) _))).mono ?_
  rintro e w2 ⟨vn', rfl, hN2, hA2, hb2⟩
  obtain ⟨a2, hv2, hw2⟩ := hN2.len
  subst hv2
  obtain ⟨hc2, hf2⟩ := bcell hb2
  have hsz2 : w1.heap.size ≤ w2.heap.size := by have := hb2.size; simpa using this
  have hz2 : w.heap.size + 1 + 1 < w2.heap.size := by omega
  have HB2 : Hid (Below w.heap.size w w2) := hbs.trans (hb2.mono (by simp; omega))
  have HR2 : Hid (∀ W, (∀ b, w.heap.size + 3 ≤ b → b < w2.heap.size → W.heap[b]? = w2.heap[b]?) → OwnRow W 29 5 80 (VlO W k) (w.heap.size + 4) w1.heap.size t.list (.slice a' t.list.length t.list.length)) := fun W h =>
    HR1.out W (fun b h1 h2 => by
      rw [h b h1 (by omega), hb2.block b (by simp; omega), Below.heap_setCell _ _ _ _ (by simp; omega)])
  have hA2' : ∀ b, At (.slice a2 t.names.length t.names.length) b → b = w1.heap.size ∧ w1.heap.size < w2.heap.size := fun b hb => by have := hA2 b hb; simpa using this
  have HA2 : Hid (∀ b, At (.slice a2 t.names.length t.names.length) b → b = w1.heap.size ∧ w1.heap.size < w2.heap.size) := hA2'
  have HN2 : Hid (∀ W, (∀ b, w.heap.size + 3 ≤ b → b < w2.heap.size → W.heap[b]? = w2.heap[b]?) → OwnRow W 9 1 16 StrO 0 0 t.names (.slice a2 t.names.length t.names.length)) := fun W h => StrO.row_same hN2 (fun b hb => h b (by have := hA2' b hb; omega) (by have := hA2' b hb; omega))
  clear hN2 hb2 hbs HR1 HN HR hA2 hA2'
  go_wp2_with fail
  refine bodyPost_ret (v := .agg #[.int .i64 t.kind, .int .i64 t.num, .string t.text, .slice a' t.list.length t.list.length, .slice a2 t.names.length t.names.length]) (by simp [results, Try.results11, go_sem, hc, hc2, hz, hz0, hz1]) rfl ⟨_, _, rfl, ⟨_, _, w.heap.size + 4, w1.heap.size, rfl, hkd, hnm, hn, by omega, by simp; omega, HR2.out _ ?_, HN2.out _ ?_, ?_, ?_⟩, ?_⟩
  · intro b h1 h2
    simp only [World.setCell, Array.getElem?_modify]
    repeat rw [if_neg (by omega)]
  · intro b h1 h2
    simp only [World.setCell, Array.getElem?_modify]
    repeat rw [if_neg (by omega)]
  · intro b hb
    have := HA1.out b hb
    simp
    omega
  · intro b hb
    have h1 := HA2.out b hb
    refine ⟨by omega, by simp; omega, by omega, fun h => ?_⟩
    have := HA1.out b h
    omega
  · exact (((((HB2.out.setCell (by simp; try omega) _).setCell (by simp; try omega) _).setCell (by simp; try omega) _).setCell (by simp; try omega) _).setCell (by simp; try omega) _).setCell (by simp; try omega) _

theorem toO_all : ∀ k : Nat, ToVlO k ∧ ToVlSO k
  | 0 => ⟨fun _ _ _ _ h => h.elim, toValueS_own 0 (fun _ _ _ _ h => h.elim)⟩
  | k + 1 => ⟨toValue_own k (toO_all k).2, toValueS_own (k + 1) (toValue_own k (toO_all k).2)⟩

end Go.Proofs.Ytdaohfeajicamaa

namespace Go.Proofs.Ytdaohfeajicamaa
open Go.RowKit
set_option linter.unusedVariables false
set_option linter.unusedSimpArgs false

def EqVl (k : Nat) : Prop := ∀ (t : Vl) (vl vn vl' vn' : Value) (w : World), VlR w 0 k t [.int .i64 t.kind, .int .i64 t.num, .string t.text, vl, vn] → VlR w 0 k t [.int .i64 t.kind, .int .i64 t.num, .string t.text, vl', vn'] →
  Calls Try.prog 13 #[.agg #[.int .i64 t.kind, .int .i64 t.num, .string t.text, vl, vn], .agg #[.int .i64 t.kind, .int .i64 t.num, .string t.text, vl', vn']] w fun e w' => e = .returned (.bool true) ∧ Below w.heap.size w w'
def EqVlS (k : Nat) : Prop := ∀ (l : List Vl) (v v' : Value) (w : World), Row w 0 5 80 (VlR w 0 k) l v → Row w 0 5 80 (VlR w 0 k) l v' →
  Calls Try.prog 37 #[v, v'] w fun e w' => e = .returned (.bool true) ∧ Below w.heap.size w w'

set_option maxHeartbeats 1000000 in
theorem eqValueS_step (k : Nat) (hT : EqVl k) : EqVlS k := by
  intro l v v' w hrow hrow'
  obtain ⟨a, cap, rfl, hw, hrest⟩ := hrow.len
  obtain ⟨a', cap', rfl, _, hrest'⟩ := hrow'.len
  have hlen : (l.length : Int) ≤ 140737488351232 := by omega
  clear hrow hrow'
  go_enter Try.func37, Try.ntmps37
  go_wp2_with fail
  go_loopw [5] (fun i wr => ∃ j : Nat, j ≤ l.length ∧ i = .int .i64 j ∧ Below w.heap.size w wr) (fun i _ => l.length - (intOf i).toNat)
  case atStart => exact ⟨0, Nat.zero_le _, rfl, Below.refl _ _⟩
  case round =>
    obtain ⟨j, hj, rfl, hb⟩ := hrel
    by_cases hlt : j < l.length
    · obtain ⟨b, off, rfl, _, hcs⟩ := hrest (List.ne_nil_of_length_pos (by omega))
      obtain ⟨cs, hl3, hc, hR⟩ := hcs j hlt
      obtain ⟨p, n, q, m, rfl⟩ := hR.cells
      obtain ⟨b', off', rfl, _, hcs'⟩ := hrest' (List.ne_nil_of_length_pos (by omega))
      obtain ⟨cs', hl3', hc', hR'⟩ := hcs' j hlt
      obtain ⟨p', n', q', m', rfl⟩ := hR'.cells
      have hk : Keeps 0 w wr := Keeps.of_below hb (Nat.le_refl _) _
      obtain ⟨c0, c1, c2, c3, c4⟩ := (hc.keeps hk (Nat.zero_le _)).five
      obtain ⟨d0, d1, d2, d3, d4⟩ := (hc'.keeps hk (Nat.zero_le _)).five
      have HR : Hid (VlR wr.drew 0 k l[j] [.int .i64 l[j].kind, .int .i64 l[j].num, .string l[j].text, .slice p l[j].list.length n, .slice q l[j].names.length m]) := VlR.keeps hk.drew k _ _ hR
      have HR' : Hid (VlR wr.drew 0 k l[j] [.int .i64 l[j].kind, .int .i64 l[j].num, .string l[j].text, .slice p' l[j].list.length n', .slice q' l[j].names.length m']) := VlR.keeps hk.drew k _ _ hR'
      clear hc hR hcs hrest hc' hR' hcs' hrest' hl3 hl3'
      go_wp2_with fail
      go_region_with (go_at_call 13; refine (hT _ _ _ _ _ _ HR.out HR'.out).mono ?_; rintro e w1 ⟨rfl, hb1⟩)
      all_goals
        have HB : Hid (Below w.heap.size w w1) := hb.drew.trans (hb1.mono hb.size)
        clear hb1
        go_wp2_with fail
        exact ⟨⟨j + 1, by omega, by go_num, HB.out⟩, by simp [intOf]; omega⟩
    · go_wp2_with fail
      go_ret
      exact ⟨rfl, hb⟩

set_option maxHeartbeats 400000 in
theorem eqValue_step (k : Nat) (hS : EqVlS k) : EqVl (k + 1) := by
  intro t vl vn vl' vn' w ht ht'
  obtain ⟨v0, v1, hv, _, _, _, hrow, hnames⟩ := ht
  simp only [List.cons.injEq, true_and, and_true] at hv
  obtain ⟨rfl, rfl⟩ := hv
  obtain ⟨v0', v1', hv', _, _, _, hrow', hnames'⟩ := ht'
  simp only [List.cons.injEq, true_and, and_true] at hv'
  obtain ⟨rfl, rfl⟩ := hv'
  have HR : Hid (∀ W, Keeps 0 w W → Row W 0 5 80 (VlR W 0 k) t.list vl) := fun W h => VlRow.keeps h hrow
  have HR' : Hid (∀ W, Keeps 0 w W → Row W 0 5 80 (VlR W 0 k) t.list vl') := fun W h => VlRow.keeps h hrow'
  have HN : Hid (∀ W, Keeps 0 w W → StrRow W 0 t.names vn) := fun W h => hnames.keeps h
  have HN' : Hid (∀ W, Keeps 0 w W → StrRow W 0 t.names vn') := fun W h => hnames'.keeps h
  clear hrow hrow' hnames hnames'
  go_enter Try.func13, Try.ntmps13
  go_wp2_with fail
  refine (hS t.list vl vl' _ (HR.out _ (((Keeps.refl _ _).alloc _).alloc _)) (HR'.out _ (((Keeps.refl _ _).alloc _).alloc _))).mono ?_
  rintro e w1 ⟨rfl, hb1⟩
  obtain ⟨hc, hf⟩ := bcell hb1
  have HB : Hid (Below w.heap.size w w1) := (((Below.refl _ _).alloc (Nat.le_refl _) _).alloc (by simp) _).trans (hb1.mono (by simp; omega))
  clear hb1
  go_wp2_with fail
  refine (eqStringS_any t.names vn vn' _ (HN.out _ (Keeps.of_below HB.out (Nat.le_refl _) _)) (HN'.out _ (Keeps.of_below HB.out (Nat.le_refl _) _))).mono ?_
  rintro e w2 ⟨rfl, hb2⟩
  have HB2 : Hid (Below w.heap.size w w2) := HB.out.trans (hb2.mono HB.out.size)
  clear hb2 hc hf
  go_wp2_with fail
  go_ret
  exact ⟨rfl, HB2.out⟩

theorem eqV_all : ∀ k : Nat, EqVl k ∧ EqVlS k
  | 0 => ⟨fun _ _ _ _ _ _ h => h.elim, eqValueS_step 0 (fun _ _ _ _ _ _ h => h.elim)⟩
  | k + 1 => ⟨eqValue_step k (eqV_all k).2, eqValueS_step (k + 1) (eqValue_step k (eqV_all k).2)⟩

end Go.Proofs.Ytdaohfeajicamaa
