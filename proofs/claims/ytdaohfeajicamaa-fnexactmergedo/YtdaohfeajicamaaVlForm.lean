
/-
  DERIVED. THE WALKS OF impl.listFormOf, impl.treeFormOf, impl.formOf, impl.ValueOk.
-/
import Derived.Test.YtdaohfeajicamaaVlParts
import Derived.Test.YtdaohfeajicamaaNamesOnce
import Derived.Deep.RegionWith
import Derived.BigQuiet
namespace Go.Proofs.Ytdaohfeajicamaa
open Go.RowKit
set_option linter.unusedVariables false
set_option linter.unusedSimpArgs false

def FormC (words : Bool) (d : Nat) : Prop := ∀ (k : Nat) (t : Vl) (vl vn : Value) (w : World), VlR w 0 k t [.int .i64 t.kind, .int .i64 t.num, .string t.text, vl, vn] →
  Calls Try.prog 35 #[.agg #[.int .i64 t.kind, .int .i64 t.num, .string t.text, vl, vn], .int .i64 (d : Int), .bool words] w fun e w' =>
    ∃ f, e = .returned (.tuple #[f, .bool (okB words d t)]) ∧ (okB words d t = true → FmR w' w.heap.size k t f) ∧ Below w.heap.size w w'

def listB (words : Bool) (d : Nat) (t : Vl) : Bool := decide (t.list.length ≤ 12) && t.list.all (okB words d)
def treeB (words : Bool) (d : Nat) (t : Vl) : Bool := listB words d t && decide (t.names.length = t.list.length) && onceB [] t.names

def ListC (words : Bool) (d : Nat) : Prop := ∀ (k : Nat) (t : Vl) (vl vn : Value) (w : World), VlR w 0 (k + 1) t [.int .i64 t.kind, .int .i64 t.num, .string t.text, vl, vn] →
  Calls Try.prog 58 #[.agg #[.int .i64 t.kind, .int .i64 t.num, .string t.text, vl, vn], .int .i64 ((d : Int) + 1), .bool words] w fun e w' =>
    ∃ v', e = .returned (.tuple #[v', .bool (listB words d t)]) ∧ (listB words d t = true → Row w' w.heap.size 1 16 (FmC w' w.heap.size k) t.list v') ∧ (listB words d t = false → v' = .slice none 0 0) ∧ Below w.heap.size w w'

theorem info_form : ∃ i, Try.prog.info? 51 = some i ∧ i.zero = some .nilIface ∧ i.size = 1 ∧ i.bytes = 16 := by
  have h : (Try.prog.info? 51).map (fun i => (i.zero, i.size, i.bytes)) = some (some .nilIface, 1, 16) := by kernel_rfl
  obtain ⟨i, h1, h2⟩ := Option.map_eq_some_iff.1 h
  simp only [Prod.mk.injEq] at h2
  exact ⟨i, h1, h2.1, h2.2.1, h2.2.2⟩

theorem ret_pair {x y : Value} {a b : Bool} (h : a = b) (hx : x = y) : Ending.returned (.tuple #[x, .bool a]) = .returned (.tuple #[y, .bool b]) := by rw [h, hx]

set_option maxHeartbeats 2000000 in
theorem listForm_step (words : Bool) (d : Nat) (hd : d ≤ 10) (ih : FormC words d) : ListC words d := by
  intro k t vl vn w ht
  obtain ⟨vl', vn', hv, hkd, hnm, htx, hrow, hnames⟩ := ht
  simp only [List.cons.injEq, true_and, and_true] at hv
  obtain ⟨rfl, rfl⟩ := hv
  obtain ⟨a, cap, rfl, hw, hrest⟩ := hrow.len
  obtain ⟨a', cap', rfl, hw', _⟩ := hnames.len
  clear hrow hnames
  by_cases h12 : 12 < t.list.length
  · have hfin : Hid (listB words d t = false) := by show _ = _; rw [listB, decide_eq_false (by omega)]; rfl
    have hi12 : (12 : Int) < (t.list.length : Int) := by omega
    go_enter Try.func58, Try.ntmps58
    go_wp2_with fail
    go_ret2
    exact ⟨_, ret_pair hfin.out.symm rfl, fun h => by rw [hfin.out] at h; exact absurd h (by decide), fun _ => rfl, (Below.refl _ _).alloc (Nat.le_refl _) _⟩
  have hl12 : t.list.length ≤ 12 := by omega
  have hi12 : (t.list.length : Int) ≤ 12 := by omega
  have hdc : decide ((12 : Int) < (t.list.length : Int)) = false := by simp; omega
  have HL : Hid (listB words d t = t.list.all (okB words d)) := by show _ = _; rw [listB, decide_eq_true (by omega)]; rfl
  obtain ⟨i, hi, hz, hs, hby⟩ := info_form
  have hmk : ∀ W : World, _ := fun W => run_make (P := Try.prog) W 74 51 i _ Try.underlying74 hi hz .i64 .i64 (t.list.length : Int) (t.list.length : Int) (by omega) (by omega) (by rw [hby]; omega) (by omega)
  simp only [hs, Int.toNat_natCast] at hmk
  clear hi hz hs hby
  have hdd : (d : Int) ≤ 10 := by omega
  go_enter Try.func58, Try.ntmps58
  go_wp2_with fail
  clear hmk
  go_loopw [9, 10, 11, 12, 24] (fun _ _ _ _ i wr => ∃ j : Nat, j ≤ t.list.length ∧ i = .int .i64 j ∧ Filled wr (w.heap.size + 1) 1 51 (FmC wr (w.heap.size + 2) k) t.list j ∧ Hid ((t.list.take j).all (okB words d) = true) ∧ Below w.heap.size w wr) (fun _ _ _ _ i _ => t.list.length - (intOf i).toNat)
  case atStart =>
    refine ⟨0, Nat.zero_le _, rfl, ?_, rfl, ((Below.refl _ _).alloc (Nat.le_refl _) _).alloc (by simp) _⟩
    exact Filled.made1 w _ 1 51 _ t.list _ (by simp [size_madeCells])
  case round =>
    obtain ⟨j, hj, rfl, HF, HA, hb⟩ := hrel
    by_cases hlt : j < t.list.length
    · obtain ⟨b, off, rfl, _, hcs⟩ := hrest (List.ne_nil_of_length_pos (by omega))
      obtain ⟨cs, hl3, hc, hR⟩ := hcs j hlt
      obtain ⟨p, n, p', n', rfl⟩ := hR.cells
      have hk : Keeps 0 w wr := Keeps.of_below hb (Nat.le_refl _) _
      obtain ⟨c0, c1, c2, c3, c4⟩ := (hc.keeps hk (Nat.zero_le _)).five
      have HR : Hid (∀ o, VlR (wr.alloc o) 0 k t.list[j] [.int .i64 t.list[j].kind, .int .i64 t.list[j].num, .string t.list[j].text, .slice p t.list[j].list.length n, .slice p' t.list[j].names.length n']) := fun o => VlR.keeps (hk.alloc o) k _ _ hR
      have HS : Hid ((t.list.take (j + 1)).all (okB words d) = okB words d t.list[j]) := by show _ = _; rw [all_snoc hlt, HA.out, Bool.true_and]
      have HF' : Hid _ := HF
      clear hc hR hcs hrest hk HA HF
      go_wp2_with fail
      refine (ih _ _ _ _ _ (HR.out _)).mono ?_
      rintro e w1 ⟨f, rfl, hf1, hb1⟩
      have HB0 : Hid (Below wr.heap.size wr w1) := ((Below.refl _ _).alloc (Nat.le_refl _) _).trans (hb1.mono (by simp))
      have HB1 : Hid (Below w.heap.size w w1) := hb.trans (HB0.out.mono hb.size)
      have HFm : Hid (okB words d t.list[j] = true → FmR w1 wr.heap.size k t.list[j] f) := fun h => FmR.base (by simp) k _ _ (hf1 h)
      clear hb1 hf1 HR c0 c1 c2 c3 c4
      cases hx : okB words d t.list[j]
      · have hfin : Hid (listB words d t = false) := HL.out.trans (all_take_false (HS.out.trans hx))
        clear HS HL HFm
        go_wp2_with fail
        go_ret2
        exact ⟨_, ret_pair hfin.out.symm rfl, fun h => by rw [hfin.out] at h; exact absurd h (by decide), fun _ => rfl, HB1.out⟩
      · have HN : Hid ((t.list.take (j + 1)).all (okB words d) = true) := HS.out.trans hx
        have hfm := HFm.out hx
        obtain ⟨T, x, rfl⟩ := hfm.iface
        have HF : Filled wr (w.heap.size + 1) 1 51 (FmC wr (w.heap.size + 2) k) t.list j := HF'.out
        have hlt0 := HF.lt
        have HF1 := Filled.below (R' := FmC w1 (w.heap.size + 2) k) HF HB0.out hlt0 (FmC.keeps (Keeps.of_below HB0.out (Nat.le_refl _) _) k)
        obtain ⟨⟨x0, s0⟩, z0⟩ := HF1.slot hlt (q := 0) (by omega)
        simp only [Nat.add_zero, Nat.mul_one] at s0 z0
        have HF2 : Hid (Filled (w1.setCells (w.heap.size + 1) (j * 1) [.iface T x]) (w.heap.size + 1) 1 51 (FmC (w1.setCells (w.heap.size + 1) (j * 1) [.iface T x]) (w.heap.size + 2) k) t.list (j + 1)) :=
          HF1.put hlt [.iface T x] rfl (FmC.keeps (Keeps.setCells (Nat.lt_succ_self _) _ _ (Keeps.refl _ _)) k)
            ⟨_, rfl, FmR.keeps (Keeps.setCells (Nat.lt_succ_self _) _ _ (Keeps.refl _ _)) k _ _ (FmR.base (by omega) k _ _ hfm)⟩
        have HB2 : Hid (Below w.heap.size w (w1.setCells (w.heap.size + 1) (j * 1) [.iface T x])) := Below.setCells (by omega) _ _ HB1.out
        rw [Nat.mul_one] at HF2 HB2
        clear HF1 HF HF' HFm hfm HS HL hb HB0 HB1
        go_wp2_with fail
        exact ⟨⟨j + 1, by omega, by go_num, HF2, HN, HB2⟩, by simp [intOf]; omega⟩
    · obtain rfl : j = t.list.length := by omega
      have hfin : Hid (listB words d t = true) := by
        have h1 := HA.out
        rw [List.take_of_length_le (Nat.le_refl _)] at h1
        exact HL.out.trans h1
      clear HA HL
      go_wp2_with fail
      go_ret2
      exact ⟨_, ret_pair hfin.out.symm rfl, fun _ => HF.row (by omega) (by omega) (by unfold maxLen; omega) (FmC.base (by omega) k), fun h => by rw [hfin.out] at h; exact absurd h (by decide), hb⟩

def TreeC (words : Bool) (d : Nat) : Prop := ∀ (k : Nat) (t : Vl) (vl vn : Value) (w : World), VlR w 0 (k + 1) t [.int .i64 t.kind, .int .i64 t.num, .string t.text, vl, vn] →
  Calls Try.prog 59 #[.agg #[.int .i64 t.kind, .int .i64 t.num, .string t.text, vl, vn], .int .i64 ((d : Int) + 1), .bool words] w fun e w' =>
    ∃ v', e = .returned (.tuple #[v', .bool (treeB words d t)]) ∧ (treeB words d t = true → Row w' w.heap.size 2 32 (BrC w' w.heap.size k) (t.names.zip t.list) v') ∧ (treeB words d t = false → v' = .slice none 0 0) ∧ Below w.heap.size w w'

theorem info_branch : ∃ i, Try.prog.info? 85 = some i ∧ i.zero = some (.agg #[.string ByteArray.empty, .nilIface]) ∧ i.size = 2 ∧ i.bytes = 32 := by
  have h : (Try.prog.info? 85).map (fun i => (i.zero, i.size, i.bytes)) = some (some (.agg #[.string ByteArray.empty, .nilIface]), 2, 32) := by kernel_rfl
  obtain ⟨i, h1, h2⟩ := Option.map_eq_some_iff.1 h
  simp only [Prod.mk.injEq] at h2
  exact ⟨i, h1, h2.1, h2.2.1, h2.2.2⟩

set_option maxHeartbeats 2000000 in
theorem treeForm_step (words : Bool) (d : Nat) (hd : d ≤ 10) (hL : ListC words d) : TreeC words d := by
  intro k t vl vn w ht
  have HR : Hid (∀ W, Keeps 0 w W → VlR W 0 (k + 1) t [.int .i64 t.kind, .int .i64 t.num, .string t.text, vl, vn]) := fun W h => VlR.keeps h _ _ _ ht
  obtain ⟨vl', vn', hv, hkd, hnm, htx, hrow, hnames⟩ := ht
  simp only [List.cons.injEq, true_and, and_true] at hv
  obtain ⟨rfl, rfl⟩ := hv
  obtain ⟨a, cap, rfl, hw, _⟩ := hrow.len
  obtain ⟨a', cap', rfl, hw', hrest'⟩ := hnames.len
  have HN : Hid (∀ W, Keeps 0 w W → StrRow W 0 t.names (.slice a' t.names.length cap')) := fun W h => hnames.keeps h
  clear hrow hnames
  go_enter Try.func59, Try.ntmps59
  go_wp2_with fail
  refine (hL k t _ _ _ (HR.out _ ((Keeps.refl _ _).alloc _))).mono ?_
  rintro e w1 ⟨v1, rfl, hy1, hn1, hb1⟩
  obtain ⟨hc, hf⟩ := bcell hb1
  have HB1 : Hid (Below w.heap.size w w1) := ((Below.refl _ _).alloc (Nat.le_refl _) _).trans (hb1.mono (by simp))
  have hz1 : w.heap.size < w1.heap.size := by have := hb1.size; simp at this; omega
  have b4 : w1.cell? ⟨w.heap.size, 4, none⟩ = some (.slice a' t.names.length cap') := by rw [hc w.heap.size 4 (by simp)]; simp
  clear hb1 hc hf HR
  cases hl : listB words d t
  · have hv1 := hn1 hl
    subst hv1
    have hfin : Hid (treeB words d t = false) := by show _ = _; rw [treeB, hl]; rfl
    clear hy1 hn1 HN
    go_wp2_with fail
    go_ret2
    exact ⟨_, ret_pair hfin.out.symm rfl, fun h => by rw [hfin.out] at h; exact absurd h (by decide), fun _ => rfl, HB1.out⟩
  have hrow1 := hy1 hl
  obtain ⟨a1, cap1, rfl, hw1, hrest1⟩ := hrow1.len
  have hl12 : (t.list.length : Int) ≤ 12 := by
    have h1 := hl
    simp only [listB, Bool.and_eq_true, decide_eq_true_eq] at h1
    omega
  clear hy1 hn1 hrow1
  have HT : Hid (treeB words d t = (decide (t.names.length = t.list.length) && onceB [] t.names)) := by show _ = _; rw [treeB, hl]; rfl
  by_cases hnl : t.names.length = t.list.length
  · have hni : ((t.names.length : Int) != (t.list.length : Int)) = false := by rw [hnl]; simp
    cases ho : onceB [] t.names
    · have hfin : Hid (treeB words d t = false) := by show _ = _; rw [HT.out, ho, Bool.and_false]
      have HNL : Hid (t.names.length = t.list.length) := hnl
      clear HT hnl
      go_wp2_with fail
      refine (namesOnce_any t.names _ _ (HN.out _ (Keeps.of_below HB1.out (Nat.le_refl _) _))).mono ?_
      rintro e w2 ⟨rfl, rfl⟩
      rw [ho]
      go_wp2_with fail
      go_ret2
      exact ⟨_, ret_pair hfin.out.symm rfl, fun h => by rw [hfin.out] at h; exact absurd h (by decide), fun _ => rfl, HB1.out⟩
    · have hfin : Hid (treeB words d t = true) := by show _ = _; rw [HT.out, ho, decide_eq_true hnl]; rfl
      have HNL : Hid (t.names.length = t.list.length) := hnl
      clear HT hnl
      go_wp2_with fail
      refine (namesOnce_any t.names _ _ (HN.out _ (Keeps.of_below HB1.out (Nat.le_refl _) _))).mono ?_
      rintro e w2 ⟨rfl, rfl⟩
      rw [ho]
      obtain ⟨i, hi, hz, hs, hby⟩ := info_branch
      have hmk : ∀ W : World, _ := fun W => run_make (P := Try.prog) W 78 85 i _ Try.underlying78 hi hz .i64 .i64 (t.list.length : Int) (t.list.length : Int) (by omega) (by omega) (by rw [hby]; omega) (by omega)
      simp only [hs, Int.toNat_natCast] at hmk
      clear hi hz hs hby
      go_wp2_with fail
      clear hmk
      have hzl : (t.names.zip t.list).length = t.list.length := by rw [List.length_zip, HNL.out, Nat.min_self]
      have HZL : Hid ((t.names.zip t.list).length = t.list.length) := hzl
      clear hzl
      go_loopw [11, 12, 41] (fun _ _ i wr => ∃ j : Nat, j ≤ t.list.length ∧ i = .int .i64 j ∧ Filled wr w2.heap.size 2 85 (BrC w2 (w.heap.size + 1) k) (t.names.zip t.list) j ∧ Below w2.heap.size w2 wr) (fun _ _ i _ => t.list.length - (intOf i).toNat)
      case atStart =>
        refine ⟨0, Nat.zero_le _, rfl, ?_, (Below.refl _ _).alloc (Nat.le_refl _) _⟩
        exact Filled.made w2 2 85 _ _ _ (by rw [size_madeCells, HZL.out])
      case round =>
        obtain ⟨j, hj, rfl, HF, hb⟩ := hrel
        by_cases hlt : j < t.list.length
        · obtain ⟨b1, off1, rfl, _, hcs1⟩ := hrest1 (List.ne_nil_of_length_pos (by omega))
          obtain ⟨cs1, _, hc1, f, rfl, hfm⟩ := hcs1 j hlt
          obtain ⟨T, x, rfl⟩ := hfm.iface
          have hjn : j < t.names.length := by have := HNL.out; omega
          have hnl : (j : Int) < (t.names.length : Int) := by omega
          obtain ⟨b2, off2, rfl, _, hcs2⟩ := hrest' (List.ne_nil_of_length_pos (by omega))
          obtain ⟨d0, hds⟩ := hcs2 j hjn
          have hbw : Below w.heap.size w wr := HB1.out.trans (hb.mono HB1.out.size)
          have q0 : wr.cell? ⟨b1, off1 + j, none⟩ = some (.iface T x) := cell_on hb (by have := hc1 0 (by simp); simpa using this)
          have q1 : wr.cell? ⟨b2, off2 + j, none⟩ = some (.string t.names[j]) := cell_on hbw d0
          have q2 : wr.cell? ⟨w.heap.size, 4, none⟩ = _ := cell_on hb b4
          have hjz : j < (t.names.zip t.list).length := by rw [HZL.out]; exact hlt
          have hel : (t.names.zip t.list)[j] = (t.names[j], t.list[j]) := by simp
          obtain ⟨⟨x0, s0⟩, z0⟩ := HF.slot hjz (q := 0) (by omega)
          obtain ⟨⟨x1, s1⟩, z1⟩ := HF.slot hjz (q := 1) (by omega)
          simp only [Nat.add_zero] at s0 z0
          have HF2 : Hid (Filled (wr.setCells w2.heap.size (j * 2) [.string t.names[j], .iface T x]) w2.heap.size 2 85 (BrC w2 (w.heap.size + 1) k) (t.names.zip t.list) (j + 1)) :=
            HF.put hjz [.string t.names[j], .iface T x] rfl (fun _ _ h => h) (by rw [hel]; exact ⟨_, rfl, FmR.base (by simp) k _ _ hfm⟩)
          have HB2 : Hid (Below w2.heap.size w2 (wr.setCells w2.heap.size (j * 2) [.string t.names[j], .iface T x])) := Below.setCells (Nat.le_refl _) _ _ hb
          clear HF hfm hcs1 hcs2 hrest1 hrest' hc1 hbw hel d0 hb hjz HN
          go_wp2_with fail
          exact ⟨⟨j + 1, by omega, by go_num, HF2, HB2⟩, by simp [intOf]; omega⟩
        · obtain rfl : j = t.list.length := by omega
          clear HN
          go_wp2_with fail
          go_ret2
          refine ⟨_, ret_pair hfin.out.symm rfl, fun _ => ?_, fun h => by rw [hfin.out] at h; exact absurd h (by decide), HB1.out.trans (hb.mono HB1.out.size)⟩
          rw [← HZL.out] at HF ⊢
          refine HF.row (R' := BrC wr w.heap.size k) (by omega) (by rw [HZL.out]; omega) (by rw [HZL.out]; unfold maxLen; omega) (fun x cs h => ?_)
          exact BrC.base (by omega) k _ _ (BrC.keeps (Keeps.of_below hb (Nat.le_refl _) _) k _ _ h)
  · have hni : ((t.names.length : Int) != (t.list.length : Int)) = true := by simp; omega
    have hfin : Hid (treeB words d t = false) := by show _ = _; rw [HT.out, decide_eq_false hnl]; rfl
    clear HT HN
    go_wp2_with fail
    go_ret2
    exact ⟨_, ret_pair hfin.out.symm rfl, fun h => by rw [hfin.out] at h; exact absurd h (by decide), fun _ => rfl, HB1.out⟩

end Go.Proofs.Ytdaohfeajicamaa
