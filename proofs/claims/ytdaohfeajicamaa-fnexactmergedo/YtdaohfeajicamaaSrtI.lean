
/-
  DERIVED. THE WALK OF impl.sorted.
-/
import Derived.Test.YtdaohfeajicamaaSrtM
import Derived.Test.YtdaohfeajicamaaPlainF
import Derived.Test.YtdaohfeajicamaaFmAs
import Derived.Test.YtdaohfeajicamaaFmAl
import Derived.Deep.RegionHeld3
namespace Go.Proofs.Ytdaohfeajicamaa
open Go.RowKit
set_option linter.unusedVariables false
set_option linter.unusedSimpArgs false

theorem wf_parts {k : Nat} {t : Vl} (h : wfB (k + 1) t = true) : partsB t.kind t.num t.text t.list.length t.names.length = true ∧ 0 ≤ t.kind ∧ t.kind ≤ 5 ∧ (t.kind = 5 → t.names.length = t.list.length ∧ onceB [] t.names = true) ∧ ∀ (j : Nat) (hj : j < t.list.length), wfB k t.list[j] = true := by
  simp only [wfB, Bool.and_eq_true, List.all_eq_true, decide_eq_true_eq, Bool.or_eq_true] at h
  obtain ⟨⟨⟨h1, h2⟩, h3⟩, h4⟩ := h
  refine ⟨h1, h2.1, h2.2, fun h5 => ?_, fun j hj => h4 _ (List.getElem_mem hj)⟩
  rcases h3 with h3 | h3
  · exact absurd h5 h3
  · exact h3
theorem srt_plain {k : Nat} {t : Vl} (h : wfB (k + 1) t = true) (h4 : t.kind ≠ 4) (h5 : t.kind ≠ 5) : srt (k + 1) t = t := by
  obtain ⟨h1, _⟩ := wf_parts h
  have hl : t.list.length = 0 := by
    unfold partsB at h1
    simp [h4, h5] at h1
    simp [h1]
  have hl' : t.list = [] := List.eq_nil_of_length_eq_zero hl
  rw [srt_else h5, hl']
  cases t
  simp at hl'
  simp [hl']
theorem wf_names {k : Nat} {t : Vl} (h : wfB (k + 1) t = true) (h4 : t.kind ≠ 5) : t.names.length = 0 := by
  obtain ⟨h1, _⟩ := wf_parts h
  unfold partsB at h1
  simp [h4] at h1
  simp [h1]

def SrtC (k : Nat) : Prop := ∀ (t : Vl) (T : TypeId) (x : Value) (w : World), FmR w 0 k t (.iface T x) → wfB k t = true →
  Calls Try.prog 36 #[.iface T x] w fun e w' => ∃ v', e = .returned v' ∧ FmR w' w.heap.size k (srt k t) v' ∧ Below w.heap.size w w'

set_option maxHeartbeats 4000000 in
theorem sorted_step (k : Nat) (ih : SrtC k) : SrtC (k + 1) := by
  intro t T x w ht hwf
  obtain ⟨hp, hk0, hk5, htree, hkids⟩ := wf_parts hwf
  have hscal : t.kind ≠ 4 → t.kind ≠ 5 → srt (k + 1) t = t := fun h4 h5 => srt_plain hwf h4 h5
  rcases ht with ⟨h1, h2⟩ | ⟨h1, h2⟩ | ⟨h1, h2⟩ | ⟨h1, h2⟩ | ⟨h1, vl, h2, hrow⟩ | ⟨h1, hnl, vl, h2, hrow⟩ | ⟨h1, h2⟩ | ⟨h1, h2⟩
  · obtain ⟨rfl, rfl⟩ : T = 69 ∧ x = .agg #[] := by simpa using h2
    have HS : Hid (srt (k + 1) t = t) := hscal (by omega) (by omega)
    have HK : Hid (t.kind = 0) := h1
    have ta := nl_null
    have tb := no_null
    clear hp hk0 hk5 htree hkids hscal hwf h1 h2
    go_enter Try.func36, Try.ntmps36
    go_wp2_with fail
    go_ret
    exact ⟨_, rfl, by rw [HS.out]; exact Or.inl ⟨HK.out, rfl⟩, Below.refl _ _⟩
  · obtain ⟨rfl, rfl⟩ : T = 70 ∧ x = .bool (t.num == 1) := by simpa using h2
    have HS : Hid (srt (k + 1) t = t) := hscal (by omega) (by omega)
    have HK : Hid (t.kind = 1) := h1
    have ta := nl_bool
    have tb := no_bool
    clear hp hk0 hk5 htree hkids hscal hwf h1 h2
    go_enter Try.func36, Try.ntmps36
    go_wp2_with fail
    go_ret
    exact ⟨_, rfl, by rw [HS.out]; exact Or.inr (Or.inl ⟨HK.out, rfl⟩), Below.refl _ _⟩
  · obtain ⟨rfl, rfl⟩ : T = 71 ∧ x = .int .i64 t.num := by simpa using h2
    have HS : Hid (srt (k + 1) t = t) := hscal (by omega) (by omega)
    have HK : Hid (t.kind = 2) := h1
    have ta := nl_num
    have tb := no_num
    clear hp hk0 hk5 htree hkids hscal hwf h1 h2
    go_enter Try.func36, Try.ntmps36
    go_wp2_with fail
    go_ret
    exact ⟨_, rfl, by rw [HS.out]; exact Or.inr (Or.inr (Or.inl ⟨HK.out, rfl⟩)), Below.refl _ _⟩
  · obtain ⟨rfl, rfl⟩ : T = 72 ∧ x = .string t.text := by simpa using h2
    have HS : Hid (srt (k + 1) t = t) := hscal (by omega) (by omega)
    have HK : Hid (t.kind = 3) := h1
    have ta := nl_text
    have tb := no_text
    clear hp hk0 hk5 htree hkids hscal hwf h1 h2
    go_enter Try.func36, Try.ntmps36
    go_wp2_with fail
    go_ret
    exact ⟨_, rfl, by rw [HS.out]; exact Or.inr (Or.inr (Or.inr (Or.inl ⟨HK.out, rfl⟩))), Below.refl _ _⟩
  · -- a list
    obtain ⟨rfl, rfl⟩ : T = 74 ∧ x = vl := by simpa using h2
    have hnames : t.names.length = 0 := wf_names hwf (by omega)
    obtain ⟨a, cap, rfl, hw, hrest⟩ := Row.len hrow
    have HS : Hid (srt (k + 1) t = ⟨t.kind, t.num, t.text, t.list.map (srt k), t.names⟩) := srt_else (by omega)
    have HK : Hid (t.kind = 4) := h1
    have ta := yes_list
    have HKI : Hid (∀ (j : Nat) (hj : j < t.list.length), wfB k t.list[j] = true) := hkids
    have hml : (t.list.map (srt k)).length = t.list.length := by simp
    obtain ⟨i, hi, hz, hs, hby⟩ := info_form
    have hmk : ∀ W : World, _ := fun W => run_make (P := Try.prog) W 74 51 i _ Try.underlying74 hi hz .i64 .i64 (t.list.length : Int) (t.list.length : Int) (by omega) (by omega) (by rw [hby]; omega) (by omega)
    simp only [hs, Int.toNat_natCast] at hmk
    clear hi hz hs hby hp hk0 hk5 htree hkids hscal hwf h1 h2 hrow
    have hli : (t.list.length : Int) * 16 ≤ 140737488351232 := by omega
    go_enter Try.func36, Try.ntmps36
    go_wp2_with fail
    clear hmk
    go_loopw [20] (fun i wr => ∃ j : Nat, j ≤ t.list.length ∧ i = .int .i64 j ∧ Hid (Filled wr w.heap.size 1 51 (FmC wr (w.heap.size + 1) k) (t.list.map (srt k)) j) ∧ Hid (Below w.heap.size w wr)) (fun i _ => t.list.length - (intOf i).toNat)
    case atStart => exact ⟨0, Nat.zero_le _, rfl, Filled.made w 1 51 _ _ _ (by simp [size_madeCells]), (Below.refl _ _).alloc (Nat.le_refl _) _⟩
    case round =>
      obtain ⟨j, hj, rfl, HF, HB⟩ := hrel
      by_cases hlt : j < t.list.length
      · obtain ⟨b, off, rfl, _, hcs⟩ := hrest (List.ne_nil_of_length_pos (by omega))
        obtain ⟨cs, hl1, hc, f, rfl, hR⟩ := hcs j hlt
        obtain ⟨T', x', rfl⟩ := hR.iface
        have hk : Keeps 0 w wr := Keeps.of_below HB.out (Nat.le_refl _) _
        have c0 := (hc.keeps hk (Nat.zero_le _)) 0 (by simp)
        simp only [Nat.mul_one, Nat.add_zero, List.getElem?_cons_zero] at c0
        have HCALL : Hid (Calls Try.prog 36 #[.iface T' x'] wr fun e w' => ∃ v', e = .returned v' ∧ FmR w' wr.heap.size k (srt k t.list[j]) v' ∧ Below wr.heap.size wr w') := ih _ _ _ _ (FmR.keeps hk _ _ _ hR) (HKI.out j hlt)
        have hjm : j < (t.list.map (srt k)).length := by rw [hml]; exact hlt
        have HAT : Hid ((t.list.map (srt k))[j] = srt k t.list[j]) := by show _ = _; simp
        have hmne : (t.list.map (srt k)).length = t.list.length := hml
        clear hc hR hcs hrest hk hl1
        go_wp2_with fail
        refine (Hid.out HCALL).mono ?_
        rintro e w1 ⟨v', rfl, hf1, hb1⟩
        obtain ⟨T1, x1, rfl⟩ := hf1.iface
        have hltB := HF.out.lt
        have HF1 := Filled.below (R' := FmC w1 (w.heap.size + 1) k) HF.out hb1 hltB (FmC.keeps (Keeps.of_below hb1 (Nat.le_refl _) _) k)
        obtain ⟨⟨x0, s0⟩, z0⟩ := HF1.slot hjm (q := 0) (by omega)
        simp only [Nat.add_zero, Nat.mul_one] at s0 z0
        have HF2 : Hid (Filled (w1.setCells w.heap.size (j * 1) [.iface T1 x1]) w.heap.size 1 51 (FmC (w1.setCells w.heap.size (j * 1) [.iface T1 x1]) (w.heap.size + 1) k) (t.list.map (srt k)) (j + 1)) :=
          HF1.put hjm [.iface T1 x1] rfl (FmC.keeps (Keeps.setCells (Nat.lt_succ_self _) _ _ (Keeps.refl _ _)) k)
            ⟨_, rfl, by rw [HAT.out]; exact FmR.keeps (Keeps.setCells (Nat.lt_succ_self _) _ _ (Keeps.refl _ _)) k _ _ (FmR.base hltB k _ _ hf1)⟩
        have HB2 : Hid (Below w.heap.size w (w1.setCells w.heap.size (j * 1) [.iface T1 x1])) := Below.setCells (Nat.le_refl _) _ _ (HB.out.trans (hb1.mono HB.out.size))
        rw [Nat.mul_one] at HF2 HB2
        clear HF1 HF hf1 hb1 HCALL HB c0
        go_wp2_with fail
        exact ⟨⟨j + 1, by omega, by go_num, HF2, HB2⟩, by simp [intOf]; omega⟩
      · obtain rfl : j = t.list.length := by omega
        have HROW : Hid (Row wr w.heap.size 1 16 (FmC wr w.heap.size k) (t.list.map (srt k)) (.slice (some ⟨w.heap.size, 0, none⟩) t.list.length t.list.length)) := by
          have h := HF.out
          rw [← hml] at h
          have h2 := h.row (base := w.heap.size) (wide := 16) (Nat.le_refl _) (by rw [hml]; omega) (by rw [hml]; unfold maxLen; omega) (FmC.base (Nat.le_succ _) k)
          rw [hml] at h2
          exact h2
        go_wp2_with fail
        go_ret
        exact ⟨_, rfl, by rw [HS.out]; exact FmR.list HK.out HROW.out, HB.out⟩
  · -- a tree
    obtain ⟨rfl, rfl⟩ : T = 78 ∧ x = vl := by simpa using h2
    obtain ⟨a, cap, rfl, hw, hrest⟩ := Row.len hrow
    have hS : t.names.zip (t.list.map (srt k)) = (t.names.zip t.list).map (fun p => (p.1, srt k p.2)) := by
      rw [List.zip_map_right]
      congr 1
    obtain ⟨P, hP⟩ : ∃ P, t.names.zip t.list = P := ⟨_, rfl⟩
    obtain ⟨S, hSS⟩ : ∃ S, t.names.zip (t.list.map (srt k)) = S := ⟨_, rfl⟩
    have hSP : S = P.map (fun p => (p.1, srt k p.2)) := by rw [← hSS, hS, hP]
    have hPl : P.length = t.list.length := by rw [← hP, List.length_zip, hnl, Nat.min_self]
    have hml : S.length = P.length := by rw [hSP]; simp
    have HNM : Hid ((S.map (·.1)).Pairwise (· ≠ ·)) := by
      have h3 : S.map (·.1) = t.names := by rw [← hSS, List.map_fst_zip (by rw [List.length_map]; omega)]
      show List.Pairwise _ _
      rw [h3]
      exact once_nodup _ _ (htree h1).2
    have HS : Hid (srt (k + 1) t = ⟨t.kind, t.num, t.text, (sortP S).map (·.2), (sortP S).map (·.1)⟩) := by show _ = _; rw [srt_tree h1, hSS]
    have HK : Hid (t.kind = 5) := h1
    have HKI : Hid (∀ (j : Nat) (hj : j < P.length), wfB k P[j].2 = true) := fun j hj => by
      have h3 : P[j].2 = t.list[j]'(by omega) := by simp [← hP]
      rw [h3]
      exact hkids j (by omega)
    have ta := nl_tree
    have tb := yes_tree
    rw [hP] at hrest hw
    obtain ⟨i, hi, hz, hs, hby⟩ := info_branch
    have hmk : ∀ W : World, _ := fun W => run_make (P := Try.prog) W 78 85 i _ Try.underlying78 hi hz .i64 .i64 (P.length : Int) (P.length : Int) (by omega) (by omega) (by rw [hby]; omega) (by omega)
    simp only [hs, Int.toNat_natCast] at hmk
    rw [hP]
    have HSP : Hid (S = P.map (fun p => (p.1, srt k p.2))) := hSP
    clear hi hz hs hby hp hk0 hk5 htree hkids hscal hwf h1 h2 hrow hS hP hSS hSP hPl
    have hli : (P.length : Int) * 32 ≤ 140737488351232 := by omega
    go_enter Try.func36, Try.ntmps36
    go_wp2_with fail
    clear hmk
    go_loopw [41] (fun i wr => ∃ j : Nat, j ≤ P.length ∧ i = .int .i64 j ∧ Hid (Filled wr w.heap.size 2 85 (BrC wr (w.heap.size + 1) k) S j) ∧ Hid (Below w.heap.size w wr)) (fun i _ => P.length - (intOf i).toNat)
    case atStart => exact ⟨0, Nat.zero_le _, rfl, Filled.made w 2 85 _ _ _ (by rw [hml]; simp [size_madeCells]), (Below.refl _ _).alloc (Nat.le_refl _) _⟩
    case round =>
      obtain ⟨j, hj, rfl, HF, HB⟩ := hrel
      by_cases hlt : j < P.length
      · obtain ⟨b, off, rfl, _, hcs⟩ := hrest (List.ne_nil_of_length_pos (by omega))
        obtain ⟨cs, hl1, hc, f, rfl, hR⟩ := hcs j hlt
        obtain ⟨T', x', rfl⟩ := hR.iface
        have hk : Keeps 0 w wr := Keeps.of_below HB.out (Nat.le_refl _) _
        have c0 := (hc.keeps hk (Nat.zero_le _)) 0 (by simp)
        have c1 := (hc.keeps hk (Nat.zero_le _)) 1 (by simp)
        simp only [Nat.add_zero, List.getElem?_cons_zero, List.getElem?_cons_succ] at c0 c1
        have HCALL : Hid (∀ W, Keeps 0 wr W → Calls Try.prog 36 #[.iface T' x'] W fun e w' => ∃ v', e = .returned v' ∧ FmR w' W.heap.size k (srt k P[j].2) v' ∧ Below W.heap.size W w') := fun W hW => ih _ _ _ _ (FmR.keeps hW _ _ _ (FmR.keeps hk _ _ _ hR)) (HKI.out j hlt)
        have hjm : j < S.length := by rw [hml]; exact hlt
        have HAT : Hid (S[j] = (P[j].1, srt k P[j].2)) := by show _ = _; simp [HSP.out]
        clear hc hR hcs hrest hk hl1
        obtain ⟨nm, hnm⟩ : ∃ nm, P[j].1 = nm := ⟨_, rfl⟩
        rw [hnm] at c0 HAT
        obtain ⟨W0, hW0⟩ : ∃ W0, W0 = wr.alloc (.cells #[.string nm, .iface T' x'] 85) := ⟨_, rfl⟩
        have hO0 : Owns W0 wr.heap.size #[.string nm, .iface T' x'] 85 := by rw [hW0]; exact Owns.made _ _ _
        have hb0 : Below wr.heap.size wr W0 := by rw [hW0]; exact (Below.refl _ _).alloc (Nat.le_refl _) _
        have hs0 : wr.heap.size < W0.heap.size := hO0.lt
        have HBX : Hid (∀ w1, Below W0.heap.size W0 w1 → (w1.cell? ⟨wr.heap.size, 0, none⟩ = some (.string nm) ∧ w1.cell? ⟨wr.heap.size, 1, none⟩ = some (.iface T' x')) ∧ Below wr.heap.size wr w1) := fun w1 h => by
          have h1 := hO0.below h hs0
          exact ⟨⟨h1.cell 0, h1.cell 1⟩, hb0.trans (h.mono (Nat.le_of_lt hs0))⟩
        have hltB := HF.out.lt
        have HSL : Hid (∀ w1, Below wr.heap.size wr w1 → Filled w1 w.heap.size 2 85 (BrC w1 (w.heap.size + 1) k) S j) := fun w1 h => Filled.below (R' := BrC w1 (w.heap.size + 1) k) HF.out h hltB (BrC.keeps (Keeps.of_below h (Nat.le_refl _) _) k)
        have HST : Hid (∀ w1, Below W0.heap.size W0 w1 → (∃ y, w1.cell? ⟨w.heap.size, j * 2, none⟩ = some y) ∧ w1.frozen? ⟨w.heap.size, j * 2, none⟩ = false ∧ (∃ y, w1.cell? ⟨w.heap.size, j * 2 + 1, none⟩ = some y) ∧ w1.frozen? ⟨w.heap.size, j * 2 + 1, none⟩ = false) := fun w1 h => by
          have h1 := HSL.out w1 (HBX.out w1 h).2
          obtain ⟨a1, a2⟩ := h1.slot hjm (q := 0) (by omega)
          obtain ⟨a3, a4⟩ := h1.slot hjm (q := 1) (by omega)
          exact ⟨a1, a2, a3, a4⟩
        obtain ⟨x0, x1⟩ := (HBX.out W0 (Below.refl _ _)).1
        have HW0 : Hid (W0 = wr.alloc (.cells #[.string nm, .iface T' x'] 85)) := hW0
        have HK0 : Hid (Keeps 0 wr W0) := Keeps.of_below hb0 (Nat.le_refl _) _
        clear hO0 hb0 hW0
        go_wp2_with fail
        rw [← HW0.out]
        clear HW0 c0 c1
        go_region_with (go_at_call 36; refine (Hid.out HCALL _ (Hid.out HK0).drew).mono ?_; rintro e w1 ⟨v', rfl, hf1, hb1⟩; obtain ⟨T1, x1', rfl⟩ := hf1.iface; have HB1 : Hid (Below W0.heap.size W0 w1) := (Below.refl _ _).drew.trans hb1; have HF1 : Hid _ := hf1; obtain ⟨y0, y1⟩ := (HBX.out w1 HB1.out).1; obtain ⟨⟨z0, s0⟩, f0, ⟨z1, s1⟩, f1⟩ := HST.out w1 HB1.out; clear hf1 hb1)
        all_goals
          have hBw1 := (HBX.out w1 HB1.out).2
          have HFI := HSL.out w1 hBw1
          have HF2 : Hid (Filled (w1.setCells w.heap.size (j * 2) [.string nm, .iface T1 x1']) w.heap.size 2 85 (BrC (w1.setCells w.heap.size (j * 2) [.string nm, .iface T1 x1']) (w.heap.size + 1) k) S (j + 1)) :=
            HFI.put hjm [.string nm, .iface T1 x1'] rfl (BrC.keeps (Keeps.setCells (Nat.lt_succ_self _) _ _ (Keeps.refl _ _)) k)
              ⟨_, by rw [HAT.out], by rw [HAT.out]; exact FmR.keeps (Keeps.setCells (Nat.lt_succ_self _) _ _ (Keeps.refl _ _)) k _ _ (FmR.base (show w.heap.size + 1 ≤ W0.heap.size by omega) k _ _ HF1.out)⟩
          have HB2 : Hid (Below w.heap.size w (w1.setCells w.heap.size (j * 2) [.string nm, .iface T1 x1'])) := Below.setCells (Nat.le_refl _) _ _ (HB.out.trans (hBw1.mono HB.out.size))
          clear HFI hBw1 HSL HST HBX HB1 HF1 HF HB HCALL y0 y1 s0 f0 s1 f1 x0 x1
          go_wp2_with fail
          exact ⟨⟨j + 1, by omega, by go_num, HF2, HB2⟩, by simp [intOf]; omega⟩
      · obtain rfl : j = P.length := by omega
        have HFF : Hid (Filled wr w.heap.size 2 85 (BrC wr (w.heap.size + 1) k) S S.length) := by rw [hml]; exact HF.out
        have hcs := sort_row wr w.heap.size k S HFF.out HNM.out (by rw [hml]; omega)
        rw [hml] at hcs
        have HLN : Hid ((sortP S).length = P.length) := by show _ = _; rw [(sortP_perm S).length_eq, hml]
        go_wp2_with fail
        refine hcs.mono ?_
        rintro e w2 ⟨rfl, hrow2, hb2⟩
        have HB2 : Hid (Below w.heap.size w w2) := HB.out.trans hb2
        have HR2 : Hid (Row w2 w.heap.size 2 32 (BrC w2 w.heap.size k) (sortP S) (.slice (some ⟨w.heap.size, 0, none⟩) P.length P.length)) := hrow2.imp (BrC.base (Nat.le_succ _) k)
        clear hrow2 hb2 hcs
        go_wp2_with fail
        go_ret
        refine ⟨_, rfl, ?_, HB2.out⟩
        rw [HS.out]
        exact FmR.tree HK.out (by simp) (by rw [zip_back]; exact HR2.out)
  · omega
  · omega

theorem sorted_all : ∀ k : Nat, SrtC k
  | 0 => fun _ _ _ _ h _ => h.elim
  | k + 1 => sorted_step k (sorted_all k)

end Go.Proofs.Ytdaohfeajicamaa
