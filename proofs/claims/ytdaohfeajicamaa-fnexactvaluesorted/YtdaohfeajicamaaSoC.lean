
/-
  DERIVED. THE WALK OF spec.ValueSorted; how many marks a sorted value has.
-/
import Derived.Test.YtdaohfeajicamaaSoB
import Derived.Test.YtdaohfeajicamaaSoI
import Derived.Test.YtdaohfeajicamaaVlCnt
namespace Go.Proofs.Ytdaohfeajicamaa
open Go.RowKit
set_option linter.unusedVariables false
set_option linter.unusedSimpArgs false

theorem cntS_perm (c : Vl → Nat) {l l' : List Vl} (h : l.Perm l') : cntS c l = cntS c l' := by
  induction h with
  | nil => rfl
  | cons x _ ih => simp only [cntS, ih]
  | swap x y l => simp only [cntS]; omega
  | trans _ _ ih1 ih2 => exact ih1.trans ih2
theorem cntS_map (c : Vl → Nat) (f : Vl → Vl) : ∀ (l : List Vl), (∀ x ∈ l, c (f x) = c x) → cntS c (l.map f) = cntS c l
  | [], _ => rfl
  | x :: r, h => by
    simp only [List.map_cons, cntS]
    rw [h x List.mem_cons_self, cntS_map c f r (fun y hy => h y (List.mem_cons_of_mem _ hy))]
theorem cntE_srt : ∀ (j k : Nat) (t : Vl), wfB k t = true → cntE j (srt k t) = cntE j t
  | 0, _, _, _ => rfl
  | j + 1, 0, _, _ => rfl
  | j + 1, k + 1, t, h => by
    obtain ⟨_, _, _, h5l, hkids⟩ := wf_parts h
    have hm : ∀ x ∈ t.list, cntE j (srt k x) = cntE j x := fun x hx => by
      obtain ⟨q, hq, rfl⟩ := List.mem_iff_getElem.1 hx
      exact cntE_srt j k _ (hkids q hq)
    by_cases h5 : t.kind = 5
    · have hl := (h5l h5).1
      have e : srt (k + 1) t = ⟨t.kind, t.num, t.text, (sortP (prsS k t)).map (·.2), (sortP (prsS k t)).map (·.1)⟩ := srt_tree h5
      have h1 : cntS (cntE j) ((sortP (prsS k t)).map (·.2)) = cntS (cntE j) t.list := by
        rw [cntS_perm _ ((sortP_perm (prsS k t)).map (·.2)), prsS_snd hl, cntS_map _ _ _ hm]
      have h2 : ((sortP (prsS k t)).map (·.1)).length = t.names.length := by
        rw [((sortP_perm (prsS k t)).map (·.1)).length_eq, prsS_fst hl]
      rw [e]
      show 3 + cntS (cntE j) _ + _ = 3 + cntS (cntE j) t.list + t.names.length
      rw [h1, h2]
    · rw [srt_else h5]
      show 3 + cntS (cntE j) _ + _ = 3 + cntS (cntE j) t.list + t.names.length
      rw [cntS_map _ _ _ hm]
theorem cnt_sorted {k : Nat} {t : Vl} (hk : 5 ≤ k) : cntS (cntE (k + 1)) (sortG k t).list + (sortG k t).names.length ≤ cntS (cntE (k + 1)) t.list + t.names.length := by
  cases hok : okB false 6 t
  · have e : sortG k t = zeroV := by unfold sortG; rw [hok]; rfl
    rw [e]
    exact Nat.zero_le _
  · have e : sortG k t = srt (k + 2) t := by unfold sortG; rw [hok]; rfl
    have h := cntE_srt (k + 2) (k + 2) t (ok_wf _ _ (okB_le (by omega) hok))
    have h2 : 3 + cntS (cntE (k + 1)) (srt (k + 2) t).list + (srt (k + 2) t).names.length = 3 + cntS (cntE (k + 1)) t.list + t.names.length := h
    rw [e]
    omega

def SpecSO (k : Nat) (t : Vl) (w : World) (e : Ending) (w' : World) : Prop :=
  ∃ vl vn, e = .returned (.agg #[.int .i64 (sortG k t).kind, .int .i64 (sortG k t).num, .string (sortG k t).text, vl, vn]) ∧
    VlR w' 0 (k + 2) (sortG k t) [.int .i64 (sortG k t).kind, .int .i64 (sortG k t).num, .string (sortG k t).text, vl, vn] ∧ Below w.heap.size w w'

set_option maxHeartbeats 1000000 in
theorem specValueSorted_any (k : Nat) (hk5 : 5 ≤ k) (t : Vl) (vl vn : Value) (w : World) (ht : VlR w 0 (k + 2) t [.int .i64 t.kind, .int .i64 t.num, .string t.text, vl, vn]) :
    Calls Try.prog 10 #[.agg #[.int .i64 t.kind, .int .i64 t.num, .string t.text, vl, vn]] w (SpecSO k t w) := by
  obtain ⟨al, cl, an, cn, hv⟩ := ht.cells
  simp only [List.cons.injEq, true_and, and_true] at hv
  obtain ⟨rfl, rfl⟩ := hv
  have HR : Hid (∀ W, Keeps 0 w W → VlR W 0 (k + 2) t [.int .i64 t.kind, .int .i64 t.num, .string t.text, .slice al t.list.length cl, .slice an t.names.length cn]) := fun W h => VlR.keeps h _ _ _ ht
  clear ht
  go_enter Try.func10, Try.ntmps10
  go_wp2_with fail
  refine (specValueOk_any (k + 2) t _ _ _ (HR.out _ (((Keeps.refl _ _).alloc _).alloc _))).mono ?_
  rintro e w1 ⟨rfl, hb1⟩
  have b0 := cell_on hb1 (p := ⟨w.heap.size, 0, none⟩) (by simp; rfl)
  have b1 := cell_on hb1 (p := ⟨w.heap.size, 1, none⟩) (by simp; rfl)
  have b2 := cell_on hb1 (p := ⟨w.heap.size, 2, none⟩) (by simp; rfl)
  have b3 := cell_on hb1 (p := ⟨w.heap.size, 3, none⟩) (by simp; rfl)
  have b4 := cell_on hb1 (p := ⟨w.heap.size, 4, none⟩) (by simp; rfl)
  have r0 := cell_on hb1 (p := ⟨w.heap.size + 1, 0, none⟩) (by simp; rfl)
  have r1 := cell_on hb1 (p := ⟨w.heap.size + 1, 1, none⟩) (by simp; rfl)
  have r2 := cell_on hb1 (p := ⟨w.heap.size + 1, 2, none⟩) (by simp; rfl)
  have r3 := cell_on hb1 (p := ⟨w.heap.size + 1, 3, none⟩) (by simp; rfl)
  have r4 := cell_on hb1 (p := ⟨w.heap.size + 1, 4, none⟩) (by simp; rfl)
  have HOR : Hid (Owns w1 (w.heap.size + 1) #[.int .i64 0, .int .i64 0, .string ⟨#[]⟩, .slice none 0 0, .slice none 0 0] 29) := (Owns.made2 w _ _ _).below hb1 (by simp)
  have rf := fun o => HOR.out.frozen o
  have HB1 : Hid (Below w.heap.size w w1) := (((Below.refl _ _).alloc (Nat.le_refl _) _).alloc (by simp) _).trans (hb1.mono (by simp <;> omega))
  have hz1 : w.heap.size + 1 < w1.heap.size := cell_lt r0
  clear hb1
  cases hok : okB false 6 t
  · have HG : Hid (sortG k t = zeroV) := by show sortG k t = zeroV; unfold sortG; rw [hok]; rfl
    clear hok
    go_wp2_with fail
    refine bodyPost_ret (v := .agg #[.int .i64 0, .int .i64 0, .string ByteArray.empty, .slice none 0 0, .slice none 0 0]) (by simp [results, Try.results10, go_sem, hz1, r0, r1, r2, r3, r4]; try rfl) rfl ?_
    unfold SpecSO
    rw [HG.out]
    exact ⟨_, _, rfl, zero_read _ _ _, ((((HB1.out.setCell (by simp) _).setCell (by simp) _).setCell (by simp) _).setCell (by simp) _).setCell (by simp) _⟩
  · have HG : Hid (sortG k t = srt (k + 2) t) := by show sortG k t = _; unfold sortG; rw [hok]; rfl
    have HWF : Hid (wfB (k + 2) t = true) := ok_wf _ _ (okB_le (by omega) hok)
    clear hok
    go_wp2_with fail
    refine (sortS_all (k + 2) t _ _ _ (HR.out _ (Keeps.of_below HB1.out (Nat.le_refl _) _)) HWF.out).mono ?_
    rintro e w2 ⟨p, n, p', n', rfl, hK, hb2⟩
    replace r0 := cell_on hb2 r0
    replace r1 := cell_on hb2 r1
    replace r2 := cell_on hb2 r2
    replace r3 := cell_on hb2 r3
    replace r4 := cell_on hb2 r4
    replace rf : ∀ o, w2.frozen? ⟨w.heap.size + 1, o, none⟩ = false := fun o => (hb2.frozen (p := ⟨w.heap.size + 1, o, none⟩) hz1).trans (rf o)
    have HB2 : Hid (Below w.heap.size w w2) := HB1.out.trans (hb2.mono HB1.out.size)
    have hz2 : w.heap.size + 1 < w2.heap.size := cell_lt r0
    have HK : Hid (VlK w2 w1.heap.size w2.heap.size (k + 2) (srt (k + 2) t) [.int .i64 t.kind, .int .i64 t.num, .string t.text, .slice p (srt (k + 2) t).list.length n, .slice p' (srt (k + 2) t).names.length n']) := hK
    have hz12 : w1.heap.size ≤ w2.heap.size := hb2.size
    clear hb2 hK b0 b1 b2 b3 b4
    obtain ⟨e1, e2, e3⟩ := srt_kind (k + 2) t
    have HE : Hid ((srt (k + 2) t).kind = t.kind ∧ (srt (k + 2) t).num = t.num ∧ (srt (k + 2) t).text = t.text) := ⟨e1, e2, e3⟩
    clear e1 e2 e3
    generalize hx : srt (k + 2) t = x at *
    clear hx
    go_wp2_with fail
    refine bodyPost_ret (v := .agg #[.int .i64 t.kind, .int .i64 t.num, .string t.text, .slice p x.list.length n, .slice p' x.names.length n']) (by simp [results, Try.results10, go_sem, hz2, r0, r1, r2, r3, r4]; try rfl) rfl ?_
    unfold SpecSO
    rw [HG.out, HE.out.1, HE.out.2.1, HE.out.2.2]
    refine ⟨_, _, rfl, VlR.base (Nat.zero_le _) _ _ _ (HK.out _ (fun b h1 h2 => ?_)), ((((HB2.out.setCell (by simp) _).setCell (by simp) _).setCell (by simp) _).setCell (by simp) _).setCell (by simp) _⟩
    simp only [World.setCell, Array.getElem?_modify]
    repeat rw [if_neg (by omega)]

end Go.Proofs.Ytdaohfeajicamaa
