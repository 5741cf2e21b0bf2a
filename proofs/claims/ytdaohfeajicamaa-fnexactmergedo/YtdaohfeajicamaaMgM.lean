
/-
  DERIVED. THE WALK OF impl.merged.
-/
import Derived.Test.YtdaohfeajicamaaMgO
import Derived.Test.YtdaohfeajicamaaFmAs
import Derived.Test.YtdaohfeajicamaaFmIx
import Derived.Test.YtdaohfeajicamaaSoA
import Derived.Deep.AppendLies
import Derived.Deep.RegionLaw
import Derived.Deep.RegionWith
namespace Go.Proofs.Ytdaohfeajicamaa
open Go.RowKit
set_option linter.unusedVariables false
set_option linter.unusedSimpArgs false

theorem nn_null (W : World) (v : Value) : (Instr.typeAssert (.iface 69 (.agg #[])) 51 69 true).run Try.prog W = .ok (.tuple #[.agg #[], .bool true]) W := by kernel_rfl
theorem nn_bool (W : World) (v : Value) : (Instr.typeAssert (.iface 70 v) 51 69 true).run Try.prog W = .ok (.tuple #[.agg #[], .bool false]) W := by kernel_rfl
theorem nn_num (W : World) (v : Value) : (Instr.typeAssert (.iface 71 v) 51 69 true).run Try.prog W = .ok (.tuple #[.agg #[], .bool false]) W := by kernel_rfl
theorem nn_text (W : World) (v : Value) : (Instr.typeAssert (.iface 72 v) 51 69 true).run Try.prog W = .ok (.tuple #[.agg #[], .bool false]) W := by kernel_rfl
theorem nn_list (W : World) (v : Value) : (Instr.typeAssert (.iface 74 v) 51 69 true).run Try.prog W = .ok (.tuple #[.agg #[], .bool false]) W := by kernel_rfl
theorem nn_tree (W : World) (v : Value) : (Instr.typeAssert (.iface 78 v) 51 69 true).run Try.prog W = .ok (.tuple #[.agg #[], .bool false]) W := by kernel_rfl
theorem nn_var (W : World) (v : Value) : (Instr.typeAssert (.iface 81 v) 51 69 true).run Try.prog W = .ok (.tuple #[.agg #[], .bool false]) W := by kernel_rfl
theorem nn_word (W : World) (v : Value) : (Instr.typeAssert (.iface 83 v) 51 69 true).run Try.prog W = .ok (.tuple #[.agg #[], .bool false]) W := by kernel_rfl
/-- Whether a form is nothing. -/
theorem nn_any {k : Nat} {w : World} {base : Nat} {t : Vl} {T : TypeId} {x : Value} (h : FmR w base k t (.iface T x)) : ∀ W : World, (Instr.typeAssert (.iface T x) 51 69 true).run Try.prog W = .ok (.tuple #[.agg #[], .bool (decide (t.kind = 0))]) W := by
  intro W
  cases k with
  | zero => exact h.elim
  | succ k =>
    rcases h with ⟨h0, h⟩ | ⟨h0, h⟩ | ⟨h0, h⟩ | ⟨h0, h⟩ | ⟨h0, vl, h, _⟩ | ⟨h0, _, vl, h, _⟩ | ⟨h0, h⟩ | ⟨h0, h⟩
    all_goals
      simp only [Value.iface.injEq] at h
      obtain ⟨rfl, rfl⟩ := h
      rw [h0]
    · exact nn_null W (.agg #[])
    · exact nn_bool W _
    · exact nn_num W _
    · exact nn_text W _
    · exact nn_list W _
    · exact nn_tree W _
    · exact nn_var W _
    · exact nn_word W _
/-- Whether a form is a tree; its branches. -/
theorem tt_any {k : Nat} {w : World} {t : Vl} {T : TypeId} {x : Value} (h : FmR w 0 (k + 1) t (.iface T x)) : ∃ (a : Option Addr) (c : Nat), (∀ W : World, (Instr.typeAssert (.iface T x) 51 78 true).run Try.prog W = .ok (.tuple #[.slice a (pvOf t).length c, .bool (decide (t.kind = 5))]) W) ∧
    Row w 0 2 32 (BrC w 0 k) (pvOf t) (.slice a (pvOf t).length c) := by
  have hno : t.kind ≠ 5 → pvOf t = [] := fun h => by unfold pvOf; rw [if_neg h]
  have hnil : t.kind ≠ 5 → Row w 0 2 32 (BrC w 0 k) (pvOf t) (.slice none (pvOf t).length 0) := fun h => by rw [hno h]; exact Or.inl ⟨rfl, rfl⟩
  rcases h with ⟨h0, h⟩ | ⟨h0, h⟩ | ⟨h0, h⟩ | ⟨h0, h⟩ | ⟨h0, vl, h, _⟩ | ⟨h0, hl, vl, h, hrow⟩ | ⟨h0, h⟩ | ⟨h0, h⟩
  all_goals
    simp only [Value.iface.injEq] at h
    obtain ⟨rfl, rfl⟩ := h
  · exact ⟨none, 0, fun W => by rw [h0, hno (by omega)]; exact no_null W _, hnil (by omega)⟩
  · exact ⟨none, 0, fun W => by rw [h0, hno (by omega)]; exact no_bool W _, hnil (by omega)⟩
  · exact ⟨none, 0, fun W => by rw [h0, hno (by omega)]; exact no_num W _, hnil (by omega)⟩
  · exact ⟨none, 0, fun W => by rw [h0, hno (by omega)]; exact no_text W _, hnil (by omega)⟩
  · exact ⟨none, 0, fun W => by rw [h0, hno (by omega)]; exact no_list W _, hnil (by omega)⟩
  · have hp : pvOf t = t.names.zip t.list := by unfold pvOf; rw [if_pos h0]; rfl
    obtain ⟨a, c, rfl, _, _⟩ := Row.len hrow
    rw [hp]
    exact ⟨a, c, fun W => by rw [h0]; exact yes_tree W _, hrow⟩
  · exact ⟨none, 0, fun W => by rw [h0, hno (by omega)]; exact no_var W _, hnil (by omega)⟩
  · exact ⟨none, 0, fun W => by rw [h0, hno (by omega)]; exact no_word W _, hnil (by omega)⟩

def MrgC (k : Nat) : Prop := ∀ (w0 : World) (v m : Vl) (Tv : TypeId) (xv : Value) (Tm : TypeId) (xm : Value) (w : World), Keeps 0 w0 w → FmR w0 0 k v (.iface Tv xv) → FmR w0 0 k m (.iface Tm xm) → okB false k v = true → okB false k m = true →
  Calls Try.prog 54 #[.iface Tv xv, .iface Tm xm] w fun e w' => ∃ T x, e = .returned (.iface T x) ∧ FmK w0 w' w.heap.size w'.heap.size k (mdo k v m) (.iface T x) ∧ Below w.heap.size w w'

set_option maxHeartbeats 8000000 in
set_option maxRecDepth 4000 in
theorem merged_step (k : Nat) (ih : MrgC k) : MrgC (k + 1) := by
  intro w0 v m Tv xv Tm xm w hk0 hv hm hov hom
  obtain ⟨ma, mc, tm, hmrow⟩ := tt_any hm
  obtain ⟨va, vc, tv, hvrow⟩ := tt_any hv
  have HM0 : Hid (FmR w0 0 (k + 1) m (.iface Tm xm)) := hm
  have HOV : Hid (okB false (k + 1) v = true) := hov
  have HOM : Hid (okB false (k + 1) m = true) := hom
  have HK0 : Hid (Keeps 0 w0 w) := hk0
  clear hm hv hov hom hk0
  by_cases h5 : m.kind = 5
  rotate_left
  · have hd : decide (m.kind = 5) = false := decide_eq_false h5
    rw [hd] at tm
    have HE : Hid (mdo (k + 1) v m = m) := mdo_else h5
    clear hd h5 hmrow hvrow tv
    go_enter Try.func54, Try.ntmps54
    go_wp2_with fail
    go_ret
    exact ⟨_, _, rfl, by rw [HE.out]; exact FmK.old HM0.out, Below.refl _ _⟩
  · have hd : decide (m.kind = 5) = true := decide_eq_true h5
    rw [hd] at tm
    have HLV : Hid (v.kind = 5 → v.names.length = v.list.length) := fun h => (ok_five h HOV.out).1
    have HLM : Hid (m.kind = 5 → m.names.length = m.list.length) := fun h => (ok_five h HOM.out).1
    have hml : (pvOf m).length ≤ 12 := by
      have h1 := ok_len12 HOM.out
      unfold pvOf; rw [if_pos h5]
      unfold prsOf; rw [List.length_zip]; omega
    have hvl : (pvOf v).length ≤ 12 := by
      have h1 := ok_len12 HOV.out
      unfold pvOf
      split
      · unfold prsOf; rw [List.length_zip]; omega
      · exact Nat.zero_le _
    have HKM : Hid (∀ p ∈ pvOf m, okB false k p.2 = true) := fun p hp => by
      unfold pvOf at hp
      rw [if_pos h5] at hp
      exact ok_kid HOM.out (mem_prs hp).2
    have HKV : Hid (∀ s, 0 < k → okB false k (vlOf (treeO v s)) = true) := fun s h => ok_vlOf HOV.out h
    have HXM : Hid (∀ s r, IdxP (pvOf m) s r → (r = -1 ∧ treeO m s = none) ∨ ∃ (i : Nat) (h : i < (pvOf m).length), r = (i : Int) ∧ treeO m s = some (pvOf m)[i].2) := fun s r h => pv_find HLM.out h
    have HXV : Hid (∀ s r, IdxP (pvOf v) s r → (r = -1 ∧ treeO v s = none) ∨ ∃ (i : Nat) (h : i < (pvOf v).length), r = (i : Int) ∧ treeO v s = some (pvOf v)[i].2) := fun s r h => pv_find HLV.out h
    have HE : Hid (mdo (k + 1) v m = treeV ((pvOf v).filter (fun p => (treeO m p.1).isNone) ++ (saysQ (pvOf m)).map (fun p => (p.1, mdo k (vlOf (treeO v p.1)) p.2)))) := by
      show _ = _
      rw [mdo_tree h5, was_pv]
      unfold pvOf
      rw [if_pos h5]
    obtain ⟨PM, hPM⟩ : ∃ PM, pvOf m = PM := ⟨_, rfl⟩
    obtain ⟨PV, hPV⟩ : ∃ PV, pvOf v = PV := ⟨_, rfl⟩
    rw [hPM] at tm hmrow hml HKM HXM HE
    rw [hPV] at tv hvrow hvl HXV HE
    clear hPM hPV hd h5 HLV HLM HOV HOM HM0
    have HRM : Hid (∀ W, Keeps 0 w0 W → Row W 0 2 32 (BrC W 0 k) PM (.slice ma PM.length mc)) := fun W h => hmrow.keeps h (BrC.keeps h k)
    have HRV : Hid (∀ W, Keeps 0 w0 W → Row W 0 2 32 (BrC W 0 k) PV (.slice va PV.length vc)) := fun W h => hvrow.keeps h (BrC.keeps h k)
    obtain ⟨_, _, hve, _, hvrest⟩ := Row.len hvrow
    simp only [Value.slice.injEq, true_and] at hve
    obtain ⟨rfl, rfl⟩ := hve
    obtain ⟨_, _, hme, _, hmrest⟩ := Row.len hmrow
    simp only [Value.slice.injEq, true_and] at hme
    obtain ⟨rfl, rfl⟩ := hme
    have HVR : Hid _ := hvrest
    have HMR : Hid _ := hmrest
    clear hvrow hmrow hvrest hmrest
    obtain ⟨i0, hi0, hz0, hz1, hz2⟩ := info_branch
    have hvi : (PV.length : Int) ≤ 12 := by omega
    have hmi : (PM.length : Int) ≤ 12 := by omega
    go_enter Try.func54, Try.ntmps54
    go_wp2_with fail
    go_loopw [9, 33] (fun o vi wr => ∃ (j : Nat) (P : List Pr) (oa : Option Addr) (oc : Nat) (xs : List Value), vi = .int .i64 (j : Int) ∧ j ≤ PV.length ∧ o = .slice oa P.length oc ∧ P.length ≤ j ∧ Hid (P = (PV.take j).filter (fun p => (treeO m p.1).isNone)) ∧ Hid (OutB w0 wr w.heap.size k P (.slice oa P.length oc) xs) ∧ Hid (Below w.heap.size w wr)) (fun _ vi _ => PV.length - (intOf vi).toNat)
    case atStart => exact ⟨0, [], none, 0, [], rfl, Nat.zero_le _, rfl, Nat.zero_le _, rfl, OutB.nil _ _ _ _, Below.refl _ _⟩
    case round =>
      obtain ⟨j, P, oa, oc, xs, rfl, hj, rfl, hPj, HP, HO, HB⟩ := hrel
      have hKr : Keeps 0 w0 wr := HK0.out.trans (Keeps.of_below HB.out (Nat.le_refl _) _)
      have HKr : Hid (Keeps 0 w0 wr) := hKr
      have hji : (j : Int) ≤ 12 := by omega
      by_cases hlt : j < PV.length
      · have hlti : (j : Int) < (PV.length : Int) := by omega
        obtain ⟨b, off, rfl, _, hcs⟩ := HVR.out (List.ne_nil_of_length_pos (by omega))
        obtain ⟨cs, _, hc, f, rfl, hf⟩ := hcs j hlt
        obtain ⟨T, x, rfl⟩ := FmR.iface hf
        have hck := hc.keeps hKr (Nat.zero_le _)
        have c0 : wr.cell? ⟨b, off + j * 2, none⟩ = some (.string PV[j].1) := hck 0 (by simp)
        have c1 : wr.cell? ⟨b, off + j * 2 + 1, none⟩ = some (.iface T x) := hck 1 (by simp)
        have HF : Hid (FmR w0 0 k PV[j].2 (.iface T x)) := hf
        have HSN : Hid ((PV.take (j + 1)).filter (fun p => (treeO m p.1).isNone) = (PV.take j).filter (fun p => (treeO m p.1).isNone) ++ (if (treeO m PV[j].1).isNone then [PV[j]] else [])) := filter_snoc hlt _
        clear hc hcs hck hKr hf
        obtain ⟨pj, hpj⟩ : ∃ pj, PV[j] = pj := ⟨_, rfl⟩
        rw [hpj] at c0 HF HSN
        clear hpj
        obtain ⟨nm, hnm⟩ : ∃ nm, pj.1 = nm := ⟨_, rfl⟩
        have HNM : Hid (pj.1 = nm) := hnm
        rw [hnm] at c0 HSN
        clear hnm
        have HC : Hid (∀ o, Calls Try.prog 71 #[.slice ma PM.length mc, .string nm] (wr.alloc o) fun e w' => ∃ r, e = .returned (.int .i64 r) ∧ IdxP PM nm r ∧ Below (wr.alloc o).heap.size (wr.alloc o) w') := fun o => indexOf_any k PM _ nm _ (HRM.out _ (HKr.out.alloc _))
        go_wp2_with fail
        refine (HC.out _).mono ?_
        rintro e w1 ⟨r, rfl, hix, hb1⟩
        have y0 : w1.cell? ⟨wr.heap.size, 0, none⟩ = some (.string nm) := cell_on hb1 (by simp)
        have y1 : w1.cell? ⟨wr.heap.size, 1, none⟩ = some (.iface T x) := cell_on hb1 (by simp)
        have hb2 : Below wr.heap.size wr w1 := ((Below.refl _ _).alloc (Nat.le_refl _) _).trans (hb1.mono (by simp))
        have HB2 : Hid (Below wr.heap.size wr w1) := hb2
        have HBw : Hid (Below w.heap.size w w1) := HB.out.trans (hb2.mono HB.out.size)
        have hzw : w.heap.size ≤ w1.heap.size := HBw.out.size
        have hwr : w.heap.size ≤ wr.heap.size := HB.out.size
        have HO1 : Hid (OutB w0 w1 w.heap.size k P (.slice oa P.length oc) xs) := HO.out.below hb2
        clear hb1 hb2 HC c0 c1
        rcases HXM.out nm r hix with ⟨rfl, hno⟩ | ⟨q, hq, rfl, hso⟩
        · have HPN : Hid (P ++ [pj] = (PV.take (j + 1)).filter (fun p => (treeO m p.1).isNone)) := by show _ = _; rw [HSN.out, ← HP.out, hno]; rfl
          have HFN : Hid (FmR w0 0 k pj.2 (.iface T x)) := HF.out
          clear hix hno
          go_wp2_with (at_builtin; refine wpList_append_lies _ rfl _ _ _ rfl w.heap.size 85 i0 _ 2 32 Try.underlying78 hi0 hz0 hz1 hz2 rfl (by omega) (.slice oa P.length oc) P.length xs rfl (HO1.out.own.alloc _) ⟨w1.heap.size, 0, none⟩ 1 1 [.string nm, .iface T x] rfl rfl (World.news_of_block (cs := #[.string nm, .iface T x]) (t := 85) (fr := (0, 0)) (heap_alloc_newS w1 _)) (by simp [Value.oneCell']) (by omega) (by unfold maxLen; omega) (by omega) (by simp; omega) (w1.heap.size + 1) (by simp) ?_; intro g cap w3 hown3 hgrow3 hat3 hlt3; have HOWN3 : Hid _ := hown3; have HGR3 : Hid _ := hgrow3; have HAT3 : Hid _ := hat3; clear hown3 hgrow3 hat3)
          have hO3 : OutB w0 w3 w.heap.size k (P ++ [pj]) (.slice (some ⟨g, 0, none⟩) (P.length + 1) cap) (xs ++ [.string pj.1, .iface T x]) := OutB.step (lo := w.heap.size) (hi := w.heap.size) HO1.out hzw ((Below.refl _ _).alloc (Nat.le_refl _) _) (FmK.old HFN.out) (Nat.le_refl _) (Or.inl rfl) (by simp; omega) (by rw [HNM.out]; exact HOWN3.out) HGR3.out (by have h := HAT3.out; simpa using h)
          have HO3 : Hid (OutB w0 w3 w.heap.size k (P ++ [pj]) (.slice (some ⟨g, 0, none⟩) (P ++ [pj]).length cap) (xs ++ [.string pj.1, .iface T x])) := by
            have e : (P ++ [pj]).length = P.length + 1 := by simp
            show OutB _ _ _ _ _ _ _
            rw [e]; exact hO3
          have HB3 : Hid (Below w.heap.size w w3) := below_grownS HBw.out (Nat.le_refl _) HGR3.out (fun q hq => (HO1.out.own.lt q hq).1)
          clear hO3 HOWN3 HGR3 HAT3 hlt3 y0 y1
          go_wp2_with fail
          exact ⟨⟨j + 1, P ++ [pj], some ⟨g, 0, none⟩, cap, xs ++ [.string pj.1, .iface T x], by go_num, by omega, by simp, by simp; omega, HPN, HO3, HB3⟩, by simp [intOf]; omega⟩
        · have HPN : Hid (P = (PV.take (j + 1)).filter (fun p => (treeO m p.1).isNone)) := by show _ = _; rw [HSN.out, ← HP.out, hso]; simp
          have hlt0 : decide ((q : Int) < 0) = false := decide_eq_false (by omega)
          clear hix hso
          go_wp2_with fail
          exact ⟨⟨j + 1, P, oa, oc, xs, by go_num, by omega, rfl, by omega, HPN, HO1, HBw⟩, by simp [intOf]; omega⟩
      · obtain rfl : j = PV.length := by omega
        have HP1 : Hid (P = PV.filter (fun p => (treeO m p.1).isNone)) := by have h := HP.out; rw [List.take_length] at h; exact h
        have hPl : P.length ≤ 12 := by omega
        have HSQ0 : Hid (P = PV.filter (fun p => (treeO m p.1).isNone) ++ (saysQ (PM.take 0)).map (fun p => (p.1, mdo k (vlOf (treeO v p.1)) p.2))) := by show _ = _; rw [← HP1.out]; simp [saysQ]
        go_wp2_with fail
        go_loopw [9, 49] (fun o vi wr => ∃ (j : Nat) (P : List Pr) (oa : Option Addr) (oc : Nat) (xs : List Value), vi = .int .i64 (j : Int) ∧ j ≤ PM.length ∧ o = .slice oa P.length oc ∧ P.length ≤ 12 + j ∧ Hid (P = PV.filter (fun p => (treeO m p.1).isNone) ++ (saysQ (PM.take j)).map (fun p => (p.1, mdo k (vlOf (treeO v p.1)) p.2))) ∧ Hid (OutB w0 wr w.heap.size k P (.slice oa P.length oc) xs) ∧ Hid (Below w.heap.size w wr)) (fun _ vi _ => PM.length - (intOf vi).toNat)
        case atStart => exact ⟨0, P, oa, oc, xs, rfl, Nat.zero_le _, rfl, by omega, HSQ0, HO, HB⟩
        case round =>
          clear HO HB HP HP1 HSQ0 hPl hPj HKr
          rename_i P0 oa0 oc0 xs0 _ _
          obtain ⟨j, P, oa, oc, xs, rfl, hj, rfl, hPj, HP, HO, HB⟩ := hrel
          have hKr : Keeps 0 w0 wr := HK0.out.trans (Keeps.of_below HB.out (Nat.le_refl _) _)
          have HKr : Hid (Keeps 0 w0 wr) := hKr
          have hji : (j : Int) ≤ 12 := by omega
          by_cases hlt : j < PM.length
          · have hlti : (j : Int) < (PM.length : Int) := by omega
            obtain ⟨b, off, rfl, _, hcs⟩ := HMR.out (List.ne_nil_of_length_pos (by omega))
            obtain ⟨cs, _, hc, f, rfl, hf⟩ := hcs j hlt
            obtain ⟨T, x, rfl⟩ := FmR.iface hf
            have hck := hc.keeps hKr (Nat.zero_le _)
            have c0 : wr.cell? ⟨b, off + j * 2, none⟩ = some (.string PM[j].1) := hck 0 (by simp)
            have c1 : wr.cell? ⟨b, off + j * 2 + 1, none⟩ = some (.iface T x) := hck 1 (by simp)
            have HF : Hid (FmR w0 0 k PM[j].2 (.iface T x)) := hf
            have nn := nn_any hf
            have HSN : Hid (saysQ (PM.take (j + 1)) = saysQ (PM.take j) ++ (if decide (PM[j].2.kind ≠ 0) then [PM[j]] else [])) := filter_snoc hlt _
            have HOKJ : Hid (okB false k PM[j].2 = true) := HKM.out _ (List.getElem_mem hlt)
            clear hc hcs hck hKr hf
            obtain ⟨pj, hpj⟩ : ∃ pj, PM[j] = pj := ⟨_, rfl⟩
            rw [hpj] at c0 HF nn HSN HOKJ
            clear hpj
            obtain ⟨nm, hnm⟩ : ∃ nm, pj.1 = nm := ⟨_, rfl⟩
            have HNM : Hid (pj.1 = nm) := hnm
            rw [hnm] at c0
            clear hnm
            by_cases hk0 : pj.2.kind = 0
            · have hd0 : decide (pj.2.kind = 0) = true := decide_eq_true hk0
              have HPN : Hid (P = PV.filter (fun p => (treeO m p.1).isNone) ++ (saysQ (PM.take (j + 1))).map (fun p => (p.1, mdo k (vlOf (treeO v p.1)) p.2))) := by show _ = _; rw [HSN.out]; simp [hk0]; exact HP.out
              rw [hd0] at nn
              clear hk0 hd0
              go_wp2_with fail
              exact ⟨⟨j + 1, P, oa, oc, xs, by go_num, by omega, rfl, by omega, HPN, HO.out.below (((Below.refl _ _).alloc (Nat.le_refl _) _).alloc (by simp) _), (HB.out.alloc HB.out.size _).alloc (by have := HB.out.size; simp; omega) _⟩, by simp [intOf]; omega⟩
            · have hd0 : decide (pj.2.kind = 0) = false := decide_eq_false hk0
              have HPN : Hid (P ++ [(nm, mdo k (vlOf (treeO v nm)) pj.2)] = PV.filter (fun p => (treeO m p.1).isNone) ++ (saysQ (PM.take (j + 1))).map (fun p => (p.1, mdo k (vlOf (treeO v p.1)) p.2))) := by
                show _ = _
                rw [HSN.out, if_pos (by simpa using hk0), List.map_append, ← List.append_assoc, ← HP.out]
                simp [HNM.out]
              rw [hd0] at nn
              have HK1 : Hid (0 < k) := by
                show 0 < k
                cases k with
                | zero => have h := HOKJ.out; simp [okB] at h
                | succ k => omega
              clear hk0 hd0
              have HC : Hid (∀ W, Keeps 0 w0 W → Calls Try.prog 71 #[.slice va PV.length vc, .string nm] W fun e w' => ∃ r, e = .returned (.int .i64 r) ∧ IdxP PV nm r ∧ Below W.heap.size W w') := fun W h => indexOf_any k PV _ nm _ (HRV.out _ h)
              go_wp2_with fail
              refine (HC.out _ ((HKr.out.alloc _).alloc _)).mono ?_
              rintro e w1 ⟨r, rfl, hix, hb1⟩
              have y0 : w1.cell? ⟨wr.heap.size, 0, none⟩ = some (.string nm) := cell_on hb1 (by first | (simp; done) | (simp; rfl))
              have y1 : w1.cell? ⟨wr.heap.size, 1, none⟩ = some (.iface T x) := cell_on hb1 (by first | (simp; done) | (simp; rfl))
              have hb2 : Below wr.heap.size wr w1 := (((Below.refl _ _).alloc (Nat.le_refl _) _).alloc (by simp) _).trans (hb1.mono (by simp <;> omega))
              have HBw : Hid (Below w.heap.size w w1) := HB.out.trans (hb2.mono HB.out.size)
              have hzw : w.heap.size ≤ w1.heap.size := HBw.out.size
              have HO1 : Hid (OutB w0 w1 w.heap.size k P (.slice oa P.length oc) xs) := HO.out.below hb2
              have HKd : Hid (Keeps 0 w0 w1.drew) := (HKr.out.trans (Keeps.of_below hb2 (Nat.le_refl _) 0)).drew
              clear hb1 hb2 HC c0 c1
              rcases HXV.out nm r hix with ⟨rfl, hno⟩ | ⟨q, hq, rfl, hso⟩
              · have HCALL : Hid (∀ W, Keeps 0 w0 W → Calls Try.prog 54 #[.iface 69 (.agg #[]), .iface T x] W fun e w' => ∃ T3 x3, e = .returned (.iface T3 x3) ∧ FmK w0 w' W.heap.size w'.heap.size k (mdo k (vlOf (treeO v nm)) pj.2) (.iface T3 x3) ∧ Below W.heap.size W w') := fun W h => by
                  rw [hno]
                  refine ih w0 _ _ _ _ _ _ W h ?_ HF.out (ok_zero HK1.out) HOKJ.out
                  have h1 := HK1.out
                  obtain ⟨k', hk'⟩ : ∃ k', k = k' + 1 := ⟨k - 1, by omega⟩
                  subst hk'
                  exact Or.inl ⟨rfl, rfl⟩
                clear hix hno
                go_wp2_with fail
                go_region_law (first
                  | (refine step_append_lies _ (by rfl) _ _ _ (by rfl) w.heap.size 85 i0 _ 2 32 Try.underlying78 hi0 hz0 hz1 hz2 rfl (by omega) (.slice oa P.length oc) P.length xs (by rfl) (HO3.out.own.alloc _) ⟨w3.heap.size, 0, none⟩ 1 1 [.string nm, .iface T3 x3] (by rfl) (by rfl) (World.news_of_block (cs := #[.string nm, .iface T3 x3]) (t := 85) (fr := (0, 0)) (heap_alloc_newS w3 _)) (by simp [Value.oneCell']) (by omega) (by unfold maxLen; omega) (by omega) (by simp; omega) (w3.heap.size + 1) (by simp) ?_; intro g cap w4 hown4 hgrow4 hat4 hlt4; have HOWN4 : Hid _ := hown4; have HGR4 : Hid _ := hgrow4; have HAT4 : Hid _ := hat4; clear hown4 hgrow4 hat4)
                  | (go_simp; go_at_call 54; refine (Hid.out HCALL _ HKd.out).mono ?_; rintro e w3 ⟨T3, x3, rfl, hfk, hb3⟩; have hb13 : Below w1.heap.size w1 w3 := (Below.refl _ w1).drew.trans hb3; have y0' : w3.cell? ⟨wr.heap.size, 0, none⟩ = some (.string nm) := cell_on hb13 y0; have y1' : w3.cell? ⟨wr.heap.size, 1, none⟩ = some (.iface T x) := cell_on hb13 y1; have HFK : Hid _ := hfk; have HB13 : Hid _ := hb13; have HO3 : Hid (OutB w0 w3 w.heap.size k P (.slice oa P.length oc) xs) := HO1.out.below hb13; have hz3 : w.heap.size ≤ w3.heap.size := Nat.le_trans hzw hb13.size; clear hfk hb3 hb13))
                all_goals
                  have hO4 : OutB w0 w4 w.heap.size k (P ++ [(nm, mdo k (vlOf (treeO v nm)) pj.2)]) (.slice (some ⟨g, 0, none⟩) (P.length + 1) cap) (xs ++ [.string nm, .iface T3 x3]) := OutB.step (lo := w1.heap.size) (hi := w3.heap.size) HO1.out hzw (HB13.out.alloc HB13.out.size _) (FmK.same HFK.out (fun b _ h2 => Below.heap_alloc _ _ _ h2)) hzw (Or.inr (Nat.le_refl _)) (by simp) HOWN4.out HGR4.out (by have h := HAT4.out; simpa using h)
                  have HO4 : Hid (OutB w0 w4 w.heap.size k (P ++ [(nm, mdo k (vlOf (treeO v nm)) pj.2)]) (.slice (some ⟨g, 0, none⟩) (P ++ [(nm, mdo k (vlOf (treeO v nm)) pj.2)]).length cap) (xs ++ [.string nm, .iface T3 x3])) := by
                    have e : (P ++ [(nm, mdo k (vlOf (treeO v nm)) pj.2)]).length = P.length + 1 := by simp
                    show OutB _ _ _ _ _ _ _
                    rw [e]; exact hO4
                  have HB4 : Hid (Below w.heap.size w w4) := below_grownS (HBw.out.trans (HB13.out.mono hzw)) (Nat.le_refl _) HGR4.out (fun q hq => (HO1.out.own.lt q hq).1)
                  clear hO4 HOWN4 HGR4 HAT4 HFK HB13 HO3
                  go_wp2_with fail
                  exact ⟨⟨j + 1, P ++ [(nm, mdo k (vlOf (treeO v nm)) pj.2)], some ⟨g, 0, none⟩, cap, xs ++ [.string nm, .iface T3 x3], by go_num, by omega, by simp, by simp; omega, HPN, HO4, HB4⟩, by simp [intOf]; omega⟩
              · obtain ⟨vb, voff, rfl, _, hcs⟩ := HVR.out (List.ne_nil_of_length_pos (by omega))
                obtain ⟨cs, _, hc, f, rfl, hf⟩ := hcs q hq
                obtain ⟨T2, x2, rfl⟩ := FmR.iface hf
                have d1 : w1.cell? ⟨vb, voff + q * 2 + 1, none⟩ = some (.iface T2 x2) := (hc.keeps (HKd.out) (Nat.zero_le _)) 1 (by simp)
                have hqi : (q : Int) < (PV.length : Int) := by omega
                have hq0 : decide ((0 : Int) ≤ (q : Int)) = true := decide_eq_true (by omega)
                have HCALL : Hid (∀ W, Keeps 0 w0 W → Calls Try.prog 54 #[.iface T2 x2, .iface T x] W fun e w' => ∃ T3 x3, e = .returned (.iface T3 x3) ∧ FmK w0 w' W.heap.size w'.heap.size k (mdo k (vlOf (treeO v nm)) pj.2) (.iface T3 x3) ∧ Below W.heap.size W w') := fun W h => by
                  rw [hso]
                  exact ih w0 _ _ _ _ _ _ W h hf HF.out (by have h1 := HKV.out nm HK1.out; rw [hso] at h1; exact h1) HOKJ.out
                clear hix hso hc hcs hf
                go_wp2_with fail
                go_region_law (first
                  | (refine step_append_lies _ (by rfl) _ _ _ (by rfl) w.heap.size 85 i0 _ 2 32 Try.underlying78 hi0 hz0 hz1 hz2 rfl (by omega) (.slice oa P.length oc) P.length xs (by rfl) (HO3.out.own.alloc _) ⟨w3.heap.size, 0, none⟩ 1 1 [.string nm, .iface T3 x3] (by rfl) (by rfl) (World.news_of_block (cs := #[.string nm, .iface T3 x3]) (t := 85) (fr := (0, 0)) (heap_alloc_newS w3 _)) (by simp [Value.oneCell']) (by omega) (by unfold maxLen; omega) (by omega) (by simp; omega) (w3.heap.size + 1) (by simp) ?_; intro g cap w4 hown4 hgrow4 hat4 hlt4; have HOWN4 : Hid _ := hown4; have HGR4 : Hid _ := hgrow4; have HAT4 : Hid _ := hat4; clear hown4 hgrow4 hat4)
                  | (go_simp; go_at_call 54; refine (Hid.out HCALL _ HKd.out).mono ?_; rintro e w3 ⟨T3, x3, rfl, hfk, hb3⟩; have hb13 : Below w1.heap.size w1 w3 := (Below.refl _ w1).drew.trans hb3; have y0' : w3.cell? ⟨wr.heap.size, 0, none⟩ = some (.string nm) := cell_on hb13 y0; have y1' : w3.cell? ⟨wr.heap.size, 1, none⟩ = some (.iface T x) := cell_on hb13 y1; have HFK : Hid _ := hfk; have HB13 : Hid _ := hb13; have HO3 : Hid (OutB w0 w3 w.heap.size k P (.slice oa P.length oc) xs) := HO1.out.below hb13; have hz3 : w.heap.size ≤ w3.heap.size := Nat.le_trans hzw hb13.size; clear hfk hb3 hb13))
                all_goals
                  have hO4 : OutB w0 w4 w.heap.size k (P ++ [(nm, mdo k (vlOf (treeO v nm)) pj.2)]) (.slice (some ⟨g, 0, none⟩) (P.length + 1) cap) (xs ++ [.string nm, .iface T3 x3]) := OutB.step (lo := w1.heap.size) (hi := w3.heap.size) HO1.out hzw (HB13.out.alloc HB13.out.size _) (FmK.same HFK.out (fun b _ h2 => Below.heap_alloc _ _ _ h2)) hzw (Or.inr (Nat.le_refl _)) (by simp) HOWN4.out HGR4.out (by have h := HAT4.out; simpa using h)
                  have HO4 : Hid (OutB w0 w4 w.heap.size k (P ++ [(nm, mdo k (vlOf (treeO v nm)) pj.2)]) (.slice (some ⟨g, 0, none⟩) (P ++ [(nm, mdo k (vlOf (treeO v nm)) pj.2)]).length cap) (xs ++ [.string nm, .iface T3 x3])) := by
                    have e : (P ++ [(nm, mdo k (vlOf (treeO v nm)) pj.2)]).length = P.length + 1 := by simp
                    show OutB _ _ _ _ _ _ _
                    rw [e]; exact hO4
                  have HB4 : Hid (Below w.heap.size w w4) := below_grownS (HBw.out.trans (HB13.out.mono hzw)) (Nat.le_refl _) HGR4.out (fun q hq => (HO1.out.own.lt q hq).1)
                  clear hO4 HOWN4 HGR4 HAT4 HFK HB13 HO3
                  go_wp2_with fail
                  exact ⟨⟨j + 1, P ++ [(nm, mdo k (vlOf (treeO v nm)) pj.2)], some ⟨g, 0, none⟩, cap, xs ++ [.string nm, .iface T3 x3], by go_num, by omega, by simp, by simp; omega, HPN, HO4, HB4⟩, by simp [intOf]; omega⟩
          · obtain rfl : j = PM.length := by omega
            have HFIN : Hid (FmK w0 wr w.heap.size wr.heap.size (k + 1) (mdo (k + 1) v m) (.iface 78 (.slice oa P.length oc))) := by
              have h := HP.out
              rw [List.take_length] at h
              show FmK _ _ _ _ _ _ _
              rw [HE.out, ← h]
              exact HO.out.form (Nat.le_refl _) (by omega)
            go_wp2_with fail
            go_ret
            exact ⟨_, _, rfl, HFIN.out, HB.out⟩

theorem merged_all : ∀ k : Nat, MrgC k
  | 0 => fun _ _ _ _ _ _ _ _ _ h _ _ _ => h.elim
  | k + 1 => merged_step k (merged_all k)

end Go.Proofs.Ytdaohfeajicamaa
