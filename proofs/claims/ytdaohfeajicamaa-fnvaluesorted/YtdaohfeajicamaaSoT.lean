
/-
  DERIVED. THE WALKS OF laws.pgTexts, laws.pgValue: two that read as the same are the same.
-/
import Derived.Test.YtdaohfeajicamaaRepV
import Derived.Test.YtdaohfeajicamaaVlInfo
import Derived.Deep.RegionWith
import Derived.BigQuiet
import Derived.Test.YtdaohfeajicamaaSoB
import Derived.Test.YtdaohfeajicamaaSoI
import Derived.Test.YtdaohfeajicamaaVlCnt
import Derived.Test.YtdaohfeajicamaaTreeGet
import Derived.Test.YtdaohfeajicamaaSrtI
import Derived.Test.YtdaohfeajicamaaSrtO
import Derived.Test.YtdaohfeajicamaaVzW
import Derived.Test.YtdaohfeajicamaaVokMain
import Derived.Deep.LoopGhost
import Derived.Deep.RegionHeld3
namespace Go.Proofs.Ytdaohfeajicamaa
open Go.RowKit
set_option linter.unusedVariables false
set_option linter.unusedSimpArgs false

set_option maxHeartbeats 1000000 in
theorem pgTexts_all (l : List ByteArray) (v v' : Value) (w : World) (hrow : StrRow w 0 l v) (hrow' : StrRow w 0 l v') :
    Calls Try.prog 45 #[v, v'] w fun e w' => e = .returned (.bool true) ∧ Below w.heap.size w w' := by
  obtain ⟨a, cap, rfl, hw, hrest⟩ := hrow.len
  obtain ⟨a', cap', rfl, _, hrest'⟩ := hrow'.len
  have hlen : (l.length : Int) ≤ 140737488351232 := by omega
  clear hrow hrow'
  go_enter Try.func45, Try.ntmps45
  go_wp2_with fail
  go_loopw [5] (fun i wr => ∃ j : Nat, j ≤ l.length ∧ i = .int .i64 j ∧ Below w.heap.size w wr) (fun i _ => l.length - (intOf i).toNat)
  case atStart => exact ⟨0, Nat.zero_le _, rfl, Below.refl _ _⟩
  case round =>
    obtain ⟨j, hj, rfl, hb⟩ := hrel
    by_cases hlt : j < l.length
    · obtain ⟨b, off, rfl, _, hcs⟩ := hrest (List.ne_nil_of_length_pos (by omega))
      obtain ⟨c0, _⟩ := hcs j hlt
      obtain ⟨b', off', rfl, _, hcs'⟩ := hrest' (List.ne_nil_of_length_pos (by omega))
      obtain ⟨c0', _⟩ := hcs' j hlt
      have c1 : wr.cell? ⟨b, off + j, none⟩ = some (.string l[j]) := (Keeps.of_below hb (Nat.le_refl _) 0).cell (Nat.zero_le _) c0
      have c1' : wr.cell? ⟨b', off' + j, none⟩ = some (.string l[j]) := (Keeps.of_below hb (Nat.le_refl _) 0).cell (Nat.zero_le _) c0'
      clear hcs hrest hcs' hrest' c0 c0'
      go_wp2_with fail
      go_region_with (fail)
      all_goals
        go_wp2_with fail
        exact ⟨⟨j + 1, by omega, by go_num, hb.drew⟩, by simp [intOf]; omega⟩
    · go_wp2_with fail
      go_ret
      exact ⟨rfl, hb⟩

def PgVl (k : Nat) : Prop := ∀ (t : Vl) (vl vn vl' vn' : Value) (w : World), VlR w 0 k t [.int .i64 t.kind, .int .i64 t.num, .string t.text, vl, vn] → VlR w 0 k t [.int .i64 t.kind, .int .i64 t.num, .string t.text, vl', vn'] →
  Calls Try.prog 17 #[.agg #[.int .i64 t.kind, .int .i64 t.num, .string t.text, vl, vn], .agg #[.int .i64 t.kind, .int .i64 t.num, .string t.text, vl', vn']] w fun e w' => e = .returned (.bool true) ∧ Below w.heap.size w w'

set_option maxHeartbeats 2000000 in
theorem pgValue_step (k : Nat) (ih : PgVl k) : PgVl (k + 1) := by
  intro t vl vn vl' vn' w ht ht'
  obtain ⟨v0, v1, hv, _, _, _, hrow, hnames⟩ := ht
  simp only [List.cons.injEq, true_and, and_true] at hv
  obtain ⟨rfl, rfl⟩ := hv
  obtain ⟨v0', v1', hv', _, _, _, hrow', hnames'⟩ := ht'
  simp only [List.cons.injEq, true_and, and_true] at hv'
  obtain ⟨rfl, rfl⟩ := hv'
  obtain ⟨a, cap, rfl, hw, hrest⟩ := hrow.len
  obtain ⟨a', cap', rfl, _, hrest'⟩ := hrow'.len
  have hlen : (t.list.length : Int) ≤ 140737488351232 := by omega
  have HN : Hid (∀ W, Keeps 0 w W → StrRow W 0 t.names vn) := fun W h => hnames.keeps h
  have HN' : Hid (∀ W, Keeps 0 w W → StrRow W 0 t.names vn') := fun W h => hnames'.keeps h
  have HR : Hid _ := hrest
  have HR' : Hid _ := hrest'
  clear hrow hrow' hnames hnames' hrest hrest'
  go_enter Try.func17, Try.ntmps17
  go_wp2_with fail
  refine (pgTexts_all t.names vn vn' _ (HN.out _ (((Keeps.refl _ _).alloc _).alloc _)) (HN'.out _ (((Keeps.refl _ _).alloc _).alloc _))).mono ?_
  rintro e w1 ⟨rfl, hb1⟩
  have q0 := cell_on hb1 (p := ⟨w.heap.size, 3, none⟩) (by simp; rfl)
  have q1 := cell_on hb1 (p := ⟨w.heap.size + 1, 3, none⟩) (by simp; rfl)
  have HB : Hid (Below w.heap.size w w1) := (((Below.refl _ _).alloc (Nat.le_refl _) _).alloc (by simp) _).trans (hb1.mono (by simp <;> omega))
  clear hb1
  go_wp2_with fail
  go_loopw [5] (fun i wr => ∃ j : Nat, j ≤ t.list.length ∧ i = .int .i64 j ∧ Hid (Below w1.heap.size w1 wr)) (fun i _ => t.list.length - (intOf i).toNat)
  case atStart => exact ⟨0, Nat.zero_le _, rfl, Below.refl _ _⟩
  case round =>
    obtain ⟨j, hj, rfl, HBr⟩ := hrel
    have r0 := cell_on HBr.out q0
    have r1 := cell_on HBr.out q1
    have HBw : Hid (Below w.heap.size w wr) := HB.out.trans (HBr.out.mono HB.out.size)
    by_cases hlt : j < t.list.length
    · obtain ⟨b, off, rfl, _, hcs⟩ := HR.out (List.ne_nil_of_length_pos (by omega))
      obtain ⟨cs, hl3, hc, hQ⟩ := hcs j hlt
      obtain ⟨p, n, q, m, rfl⟩ := hQ.cells
      obtain ⟨b', off', rfl, _, hcs'⟩ := HR'.out (List.ne_nil_of_length_pos (by omega))
      obtain ⟨cs', hl3', hc', hQ'⟩ := hcs' j hlt
      obtain ⟨p', n', q', m', rfl⟩ := hQ'.cells
      have hk : Keeps 0 w wr := Keeps.of_below HBw.out (Nat.le_refl _) _
      obtain ⟨c0, c1, c2, c3, c4⟩ := (hc.keeps hk (Nat.zero_le _)).five
      obtain ⟨d0, d1, d2, d3, d4⟩ := (hc'.keeps hk (Nat.zero_le _)).five
      have HQ : Hid (VlR wr.drew 0 k t.list[j] [.int .i64 t.list[j].kind, .int .i64 t.list[j].num, .string t.list[j].text, .slice p t.list[j].list.length n, .slice q t.list[j].names.length m]) := VlR.keeps hk.drew k _ _ hQ
      have HQ' : Hid (VlR wr.drew 0 k t.list[j] [.int .i64 t.list[j].kind, .int .i64 t.list[j].num, .string t.list[j].text, .slice p' t.list[j].list.length n', .slice q' t.list[j].names.length m']) := VlR.keeps hk.drew k _ _ hQ'
      clear hc hQ hcs hc' hQ' hcs' hl3 hl3' HR HR' q0 q1 HN HN'
      go_wp2_with fail
      go_region_with (go_at_call 17; refine (ih _ _ _ _ _ _ HQ.out HQ'.out).mono ?_; rintro e w2 ⟨rfl, hb2⟩)
      all_goals
        have HB2 : Hid (Below w1.heap.size w1 w2) := HBr.out.drew.trans (hb2.mono HBr.out.size)
        clear hb2
        go_wp2_with fail
        exact ⟨⟨j + 1, by omega, by go_num, HB2⟩, by simp [intOf]; omega⟩
    · go_wp2_with fail
      go_ret
      exact ⟨rfl, HBw.out⟩

theorem pgV_all : ∀ k : Nat, PgVl k
  | 0 => fun _ _ _ _ _ _ h => h.elim
  | k + 1 => pgValue_step k (pgV_all k)

end Go.Proofs.Ytdaohfeajicamaa

namespace Go.Proofs.Ytdaohfeajicamaa
open Go.RowKit
set_option linter.unusedVariables false
set_option linter.unusedSimpArgs false

theorem cntS_perm (c : Vl → Nat) {l l' : List Vl} (h : l.Perm l') : cntS c l = cntS c l' := by
  induction h with
  | nil => rfl
  | cons x _ ih => simp only [cntS, ih]
  | swap x y l => simp only [cntS]; omega
  | trans _ _ ih1 ih2 => exact ih1.trans ih2
theorem cntS_map (c : Vl → Nat) (f : Vl → Vl) : ∀ (l : List Vl), (∀ x ∈ l, c (f x) = c x) → cntS c (l.map f) = cntS c l
  | [], _ => rfl
  | x :: r, h => by
    simp only [List.map_cons, cntS]
    rw [h x List.mem_cons_self, cntS_map c f r (fun y hy => h y (List.mem_cons_of_mem _ hy))]
theorem cntE_srt : ∀ (j k : Nat) (t : Vl), wfB k t = true → cntE j (srt k t) = cntE j t
  | 0, _, _, _ => rfl
  | j + 1, 0, _, _ => rfl
  | j + 1, k + 1, t, h => by
    obtain ⟨_, _, _, h5l, hkids⟩ := wf_parts h
    have hm : ∀ x ∈ t.list, cntE j (srt k x) = cntE j x := fun x hx => by
      obtain ⟨q, hq, rfl⟩ := List.mem_iff_getElem.1 hx
      exact cntE_srt j k _ (hkids q hq)
    by_cases h5 : t.kind = 5
    · have hl := (h5l h5).1
      have e : srt (k + 1) t = ⟨t.kind, t.num, t.text, (sortP (prsS k t)).map (·.2), (sortP (prsS k t)).map (·.1)⟩ := srt_tree h5
      have h1 : cntS (cntE j) ((sortP (prsS k t)).map (·.2)) = cntS (cntE j) t.list := by
        rw [cntS_perm _ ((sortP_perm (prsS k t)).map (·.2)), prsS_snd hl, cntS_map _ _ _ hm]
      have h2 : ((sortP (prsS k t)).map (·.1)).length = t.names.length := by
        rw [((sortP_perm (prsS k t)).map (·.1)).length_eq, prsS_fst hl]
      rw [e]
      show 3 + cntS (cntE j) _ + _ = 3 + cntS (cntE j) t.list + t.names.length
      rw [h1, h2]
    · rw [srt_else h5]
      show 3 + cntS (cntE j) _ + _ = 3 + cntS (cntE j) t.list + t.names.length
      rw [cntS_map _ _ _ hm]
theorem cnt_sorted {k : Nat} {t : Vl} (hk : 5 ≤ k) : cntS (cntE (k + 1)) (sortG k t).list + (sortG k t).names.length ≤ cntS (cntE (k + 1)) t.list + t.names.length := by
  cases hok : okB false 6 t
  · have e : sortG k t = zeroV := by unfold sortG; rw [hok]; rfl
    rw [e]
    exact Nat.zero_le _
  · have e : sortG k t = srt (k + 2) t := by unfold sortG; rw [hok]; rfl
    have h := cntE_srt (k + 2) (k + 2) t (ok_wf _ _ (okB_le (by omega) hok))
    have h2 : 3 + cntS (cntE (k + 1)) (srt (k + 2) t).list + (srt (k + 2) t).names.length = 3 + cntS (cntE (k + 1)) t.list + t.names.length := h
    rw [e]
    omega

def SpecSO (k : Nat) (t : Vl) (w : World) (e : Ending) (w' : World) : Prop :=
  ∃ vl vn, e = .returned (.agg #[.int .i64 (sortG k t).kind, .int .i64 (sortG k t).num, .string (sortG k t).text, vl, vn]) ∧
    VlR w' 0 (k + 2) (sortG k t) [.int .i64 (sortG k t).kind, .int .i64 (sortG k t).num, .string (sortG k t).text, vl, vn] ∧ Below w.heap.size w w'

set_option maxHeartbeats 1000000 in
theorem specValueSorted_any (k : Nat) (hk5 : 5 ≤ k) (t : Vl) (vl vn : Value) (w : World) (ht : VlR w 0 (k + 2) t [.int .i64 t.kind, .int .i64 t.num, .string t.text, vl, vn]) :
    Calls Try.prog 10 #[.agg #[.int .i64 t.kind, .int .i64 t.num, .string t.text, vl, vn]] w (SpecSO k t w) := by
  obtain ⟨al, cl, an, cn, hv⟩ := ht.cells
  simp only [List.cons.injEq, true_and, and_true] at hv
  obtain ⟨rfl, rfl⟩ := hv
  have HR : Hid (∀ W, Keeps 0 w W → VlR W 0 (k + 2) t [.int .i64 t.kind, .int .i64 t.num, .string t.text, .slice al t.list.length cl, .slice an t.names.length cn]) := fun W h => VlR.keeps h _ _ _ ht
  clear ht
  go_enter Try.func10, Try.ntmps10
  go_wp2_with fail
  refine (specValueOk_any (k + 2) t _ _ _ (HR.out _ (((Keeps.refl _ _).alloc _).alloc _))).mono ?_
  rintro e w1 ⟨rfl, hb1⟩
  have b0 := cell_on hb1 (p := ⟨w.heap.size, 0, none⟩) (by simp; rfl)
  have b1 := cell_on hb1 (p := ⟨w.heap.size, 1, none⟩) (by simp; rfl)
  have b2 := cell_on hb1 (p := ⟨w.heap.size, 2, none⟩) (by simp; rfl)
  have b3 := cell_on hb1 (p := ⟨w.heap.size, 3, none⟩) (by simp; rfl)
  have b4 := cell_on hb1 (p := ⟨w.heap.size, 4, none⟩) (by simp; rfl)
  have r0 := cell_on hb1 (p := ⟨w.heap.size + 1, 0, none⟩) (by simp; rfl)
  have r1 := cell_on hb1 (p := ⟨w.heap.size + 1, 1, none⟩) (by simp; rfl)
  have r2 := cell_on hb1 (p := ⟨w.heap.size + 1, 2, none⟩) (by simp; rfl)
  have r3 := cell_on hb1 (p := ⟨w.heap.size + 1, 3, none⟩) (by simp; rfl)
  have r4 := cell_on hb1 (p := ⟨w.heap.size + 1, 4, none⟩) (by simp; rfl)
  have HOR : Hid (Owns w1 (w.heap.size + 1) #[.int .i64 0, .int .i64 0, .string ⟨#[]⟩, .slice none 0 0, .slice none 0 0] 29) := (Owns.made2 w _ _ _).below hb1 (by simp)
  have rf := fun o => HOR.out.frozen o
  have HB1 : Hid (Below w.heap.size w w1) := (((Below.refl _ _).alloc (Nat.le_refl _) _).alloc (by simp) _).trans (hb1.mono (by simp <;> omega))
  have hz1 : w.heap.size + 1 < w1.heap.size := cell_lt r0
  clear hb1
  cases hok : okB false 6 t
  · have HG : Hid (sortG k t = zeroV) := by show sortG k t = zeroV; unfold sortG; rw [hok]; rfl
    clear hok
    go_wp2_with fail
    refine bodyPost_ret (v := .agg #[.int .i64 0, .int .i64 0, .string ByteArray.empty, .slice none 0 0, .slice none 0 0]) (by simp [results, Try.results10, go_sem, hz1, r0, r1, r2, r3, r4]; try rfl) rfl ?_
    unfold SpecSO
    rw [HG.out]
    exact ⟨_, _, rfl, zero_read _ _ _, ((((HB1.out.setCell (by simp) _).setCell (by simp) _).setCell (by simp) _).setCell (by simp) _).setCell (by simp) _⟩
  · have HG : Hid (sortG k t = srt (k + 2) t) := by show sortG k t = _; unfold sortG; rw [hok]; rfl
    have HWF : Hid (wfB (k + 2) t = true) := ok_wf _ _ (okB_le (by omega) hok)
    clear hok
    go_wp2_with fail
    refine (sortS_all (k + 2) t _ _ _ (HR.out _ (Keeps.of_below HB1.out (Nat.le_refl _) _)) HWF.out).mono ?_
    rintro e w2 ⟨p, n, p', n', rfl, hK, hb2⟩
    replace r0 := cell_on hb2 r0
    replace r1 := cell_on hb2 r1
    replace r2 := cell_on hb2 r2
    replace r3 := cell_on hb2 r3
    replace r4 := cell_on hb2 r4
    replace rf : ∀ o, w2.frozen? ⟨w.heap.size + 1, o, none⟩ = false := fun o => (hb2.frozen (p := ⟨w.heap.size + 1, o, none⟩) hz1).trans (rf o)
    have HB2 : Hid (Below w.heap.size w w2) := HB1.out.trans (hb2.mono HB1.out.size)
    have hz2 : w.heap.size + 1 < w2.heap.size := cell_lt r0
    have HK : Hid (VlK w2 w1.heap.size w2.heap.size (k + 2) (srt (k + 2) t) [.int .i64 t.kind, .int .i64 t.num, .string t.text, .slice p (srt (k + 2) t).list.length n, .slice p' (srt (k + 2) t).names.length n']) := hK
    have hz12 : w1.heap.size ≤ w2.heap.size := hb2.size
    clear hb2 hK b0 b1 b2 b3 b4
    obtain ⟨e1, e2, e3⟩ := srt_kind (k + 2) t
    have HE : Hid ((srt (k + 2) t).kind = t.kind ∧ (srt (k + 2) t).num = t.num ∧ (srt (k + 2) t).text = t.text) := ⟨e1, e2, e3⟩
    clear e1 e2 e3
    generalize hx : srt (k + 2) t = x at *
    clear hx
    go_wp2_with fail
    refine bodyPost_ret (v := .agg #[.int .i64 t.kind, .int .i64 t.num, .string t.text, .slice p x.list.length n, .slice p' x.names.length n']) (by simp [results, Try.results10, go_sem, hz2, r0, r1, r2, r3, r4]; try rfl) rfl ?_
    unfold SpecSO
    rw [HG.out, HE.out.1, HE.out.2.1, HE.out.2.2]
    refine ⟨_, _, rfl, VlR.base (Nat.zero_le _) _ _ _ (HK.out _ (fun b h1 h2 => ?_)), ((((HB2.out.setCell (by simp) _).setCell (by simp) _).setCell (by simp) _).setCell (by simp) _).setCell (by simp) _⟩
    simp only [World.setCell, Array.getElem?_modify]
    repeat rw [if_neg (by omega)]

end Go.Proofs.Ytdaohfeajicamaa

namespace Go.Proofs.Ytdaohfeajicamaa
open Go.RowKit
set_option linter.unusedVariables false
set_option linter.unusedSimpArgs false

def ImplTG (k : Nat) (t : Vl) (s : ByteArray) (w : World) (e : Ending) (w' : World) : Prop :=
  ∃ vl vn, e = .returned (.tuple #[.agg #[.int .i64 (vlOf (treeG t s)).kind, .int .i64 (vlOf (treeG t s)).num, .string (vlOf (treeG t s)).text, vl, vn], .bool (treeG t s).isSome]) ∧
    VlO w' (k + 1) w.heap.size w'.heap.size (vlOf (treeG t s)) [.int .i64 (vlOf (treeG t s)).kind, .int .i64 (vlOf (treeG t s)).num, .string (vlOf (treeG t s)).text, vl, vn] ∧ Below w.heap.size w w'

theorem zero_own (w : World) (k lo hi : Nat) (h : lo ≤ hi) : VlO w (k + 1) lo hi zeroV [.int .i64 0, .int .i64 0, .string ByteArray.empty, .slice none 0 0, .slice none 0 0] :=
  vlO_plain (t := zeroV) h rfl rfl ⟨by decide, by decide⟩ ⟨by decide, by decide⟩ (by simp [zeroV])

theorem implTG_none {k : Nat} {t : Vl} {s : ByteArray} {w W : World} (hG : treeG t s = none) (hb : Below w.heap.size w W) :
    ImplTG k t s w (.returned (.tuple #[.agg #[.int .i64 0, .int .i64 0, .string ByteArray.empty, .slice none 0 0, .slice none 0 0], .bool false])) W := by
  unfold ImplTG
  rw [hG]
  exact ⟨_, _, rfl, zero_own _ _ _ _ hb.size, hb⟩

set_option maxHeartbeats 1000000 in
theorem implTreeGet_any (k : Nat) (hk5 : 5 ≤ k) (t : Vl) (vl vn : Value) (s : ByteArray) (w : World) (hs : s.size ≤ 140737488351232) (ht : VlR w 0 (k + 2) t [.int .i64 t.kind, .int .i64 t.num, .string t.text, vl, vn]) :
    Calls Try.prog 19 #[.agg #[.int .i64 t.kind, .int .i64 t.num, .string t.text, vl, vn], .string s] w (ImplTG k t s w) := by
  obtain ⟨al, cl, an, cn, hv⟩ := ht.cells
  simp only [List.cons.injEq, true_and, and_true] at hv
  obtain ⟨rfl, rfl⟩ := hv
  have HR : Hid (∀ W, Keeps 0 w W → VlR W 0 (k + 2) t [.int .i64 t.kind, .int .i64 t.num, .string t.text, .slice al t.list.length cl, .slice an t.names.length cn]) := fun W h => VlR.keeps h _ _ _ ht
  clear ht
  go_enter Try.func19, Try.ntmps19
  go_wp2_with fail
  refine (form_all false 6 (by omega) (k + 2) t _ _ _ (HR.out _ (((Keeps.refl _ _).alloc _).alloc _))).mono ?_
  rintro e w1 ⟨f, rfl, hF, hb1⟩
  have r0 := cell_on hb1 (p := ⟨w.heap.size + 1, 0, none⟩) (by simp; rfl)
  have r1 := cell_on hb1 (p := ⟨w.heap.size + 1, 1, none⟩) (by simp; rfl)
  have r2 := cell_on hb1 (p := ⟨w.heap.size + 1, 2, none⟩) (by simp; rfl)
  have r3 := cell_on hb1 (p := ⟨w.heap.size + 1, 3, none⟩) (by simp; rfl)
  have r4 := cell_on hb1 (p := ⟨w.heap.size + 1, 4, none⟩) (by simp; rfl)
  have HOR : Hid (Owns w1 (w.heap.size + 1) #[.int .i64 0, .int .i64 0, .string ⟨#[]⟩, .slice none 0 0, .slice none 0 0] 29) := (Owns.made2 w _ _ _).below hb1 (by simp)
  have rf := fun o => HOR.out.frozen o
  have HB1 : Hid (Below w.heap.size w w1) := (((Below.refl _ _).alloc (Nat.le_refl _) _).alloc (by simp) _).trans (hb1.mono (by simp <;> omega))
  have hz1 : w.heap.size + 1 < w1.heap.size := cell_lt r0
  have HF : Hid (okB false 6 t = true → FmR w1 0 (k + 2) t f) := fun h => FmR.base (Nat.zero_le _) _ _ _ (hF h)
  clear hb1 hF
  cases hok : okB false 6 t
  · have HG : Hid (treeG t s = none) := by show treeG t s = none; unfold treeG; rw [hok]; rfl
    clear hok HF
    go_wp2_with fail
    exact bodyPost_ret (v := .tuple #[.agg #[.int .i64 0, .int .i64 0, .string ByteArray.empty, .slice none 0 0, .slice none 0 0], .bool false]) (by simp [results, Try.results19, go_sem, hz1, r0, r1, r2, r3, r4]; try rfl) rfl (implTG_none HG.out (((((HB1.out.setCell (by simp) _).setCell (by simp) _).setCell (by simp) _).setCell (by simp) _).setCell (by simp) _))
  · have HG : Hid (treeG t s = treeO t s) := by show treeG t s = _; unfold treeG; rw [hok]; rfl
    have hfm := HF.out hok
    obtain ⟨T0, x0, rfl⟩ := FmR.iface hfm
    have HFM : Hid (FmR w1 0 (k + 2) t (.iface T0 x0)) := hfm
    have HOK : Hid (okB false 6 t = true) := hok
    clear hok HF hfm
    go_wp2_with fail
    refine (formWithin_any (k + 1) t _ s _ hs HFM.out).mono ?_
    rintro e w2 ⟨hm, hb2⟩
    replace r0 := cell_on hb2 r0
    replace r1 := cell_on hb2 r1
    replace r2 := cell_on hb2 r2
    replace r3 := cell_on hb2 r3
    replace r4 := cell_on hb2 r4
    replace rf : ∀ o, w2.frozen? ⟨w.heap.size + 1, o, none⟩ = false := fun o => (hb2.frozen (p := ⟨w.heap.size + 1, o, none⟩) hz1).trans (rf o)
    have HB2 : Hid (Below w.heap.size w w2) := HB1.out.trans (hb2.mono HB1.out.size)
    replace hz1 : w.heap.size + 1 < w2.heap.size := cell_lt r0
    clear hb2 HFM
    match ho : treeO t s with
    | none =>
      rw [ho] at hm
      have he : e = _ := hm
      subst he
      have HG2 : Hid (treeG t s = none) := HG.out.trans ho
      clear hm ho HG
      go_wp2_with fail
      exact bodyPost_ret (v := .tuple #[.agg #[.int .i64 0, .int .i64 0, .string ByteArray.empty, .slice none 0 0, .slice none 0 0], .bool false]) (by simp [results, Try.results19, go_sem, hz1, r0, r1, r2, r3, r4]; try rfl) rfl (implTG_none HG2.out (((((HB2.out.setCell (by simp) _).setCell (by simp) _).setCell (by simp) _).setCell (by simp) _).setCell (by simp) _))
    | some x =>
      rw [ho] at hm
      obtain ⟨f2, he, hfm2⟩ := hm
      subst he
      obtain ⟨T, y, rfl⟩ := FmR.iface hfm2
      obtain ⟨hmt, hcf⟩ := mth_leads hfm2
      have HG2 : Hid (treeG t s = some x) := HG.out.trans ho
      have hox : okB false (k + 1) x = true := okB_le (by omega) (treeO_ok ho HOK.out).2
      have HV : Hid (Calls Try.prog (mth T) #[y] w2 (ValP (k + 1) x w2)) := val_all (k + 1) x T y w2 hfm2 hox
      clear ho HG hox hfm2
      go_wp2_with fail
      refine (Hid.out HV).mono ?_
      rintro e w3 ⟨vl3, vn3, rfl, hO3, hb3⟩
      obtain ⟨p1, n1, p1', n1', hv1⟩ := hO3.cells
      simp only [List.cons.injEq, true_and, and_true] at hv1
      obtain ⟨rfl, rfl⟩ := hv1
      replace r0 := cell_on hb3 r0
      replace r1 := cell_on hb3 r1
      replace r2 := cell_on hb3 r2
      replace r3 := cell_on hb3 r3
      replace r4 := cell_on hb3 r4
      replace rf : ∀ o, w3.frozen? ⟨w.heap.size + 1, o, none⟩ = false := fun o => (hb3.frozen (p := ⟨w.heap.size + 1, o, none⟩) hz1).trans (rf o)
      have HB3 : Hid (Below w.heap.size w w3) := HB2.out.trans (hb3.mono HB2.out.size)
      have hz3 : w.heap.size + 1 < w3.heap.size := cell_lt r0
      have HO3 : Hid (VlO w3 (k + 1) w2.heap.size w3.heap.size x [.int .i64 x.kind, .int .i64 x.num, .string x.text, .slice p1 x.list.length n1, .slice p1' x.names.length n1']) := hO3
      clear hb3 hO3
      go_wp2_with fail
      refine bodyPost_ret (v := .tuple #[.agg #[.int .i64 x.kind, .int .i64 x.num, .string x.text, .slice p1 x.list.length n1, .slice p1' x.names.length n1'], .bool true]) (by simp [results, Try.results19, go_sem, hz3, r0, r1, r2, r3, r4]; try rfl) rfl ?_
      unfold ImplTG
      rw [HG2.out]
      refine ⟨_, _, rfl, VlO.wide (lo := w2.heap.size) (hi := w3.heap.size) (by have := HB2.out.size; omega) (by simp [World.setCell]) _ _ _ (VlO.same _ _ _ _ _ (fun b h1 h2 => ?_) HO3.out), ((((HB3.out.setCell (by simp) _).setCell (by simp) _).setCell (by simp) _).setCell (by simp) _).setCell (by simp) _⟩
      simp only [World.setCell, Array.getElem?_modify]
      repeat rw [if_neg (by omega)]

end Go.Proofs.Ytdaohfeajicamaa

namespace Go.Proofs.Ytdaohfeajicamaa
set_option linter.unusedVariables false
set_option linter.unusedSimpArgs false

theorem sumL_permM (s : Vl → Nat) {l l' : List Vl} (h : l.Perm l') : sumL s l = sumL s l' := by
  induction h with
  | nil => rfl
  | cons x _ ih => simp only [sumL, ih]
  | swap x y l => simp only [sumL]; omega
  | trans _ _ ih1 ih2 => exact ih1.trans ih2
theorem sumL_mapM (s : Vl → Nat) (f : Vl → Vl) : ∀ (l : List Vl), (∀ x ∈ l, s (f x) = s x) → sumL s (l.map f) = sumL s l
  | [], _ => rfl
  | x :: r, h => by
    simp only [List.map_cons, sumL]
    rw [h x List.mem_cons_self, sumL_mapM s f r (fun y hy => h y (List.mem_cons_of_mem _ hy))]
theorem maxL_permM (s : Vl → Nat) {l l' : List Vl} (h : l.Perm l') : maxL s l = maxL s l' := by
  induction h with
  | nil => rfl
  | cons x _ ih => simp only [maxL, ih]
  | swap x y l => simp only [maxL]; omega
  | trans _ _ ih1 ih2 => exact ih1.trans ih2
theorem maxL_mapM (s : Vl → Nat) (f : Vl → Vl) : ∀ (l : List Vl), (∀ x ∈ l, s (f x) = s x) → maxL s (l.map f) = maxL s l
  | [], _ => rfl
  | x :: r, h => by
    simp only [List.map_cons, maxL]
    rw [h x List.mem_cons_self, maxL_mapM s f r (fun y hy => h y (List.mem_cons_of_mem _ hy))]

theorem kidsM {k : Nat} {t : Vl} (h : wfB (k + 1) t = true) : ∀ x ∈ t.list, wfB k x = true := fun x hx => by
  obtain ⟨_, _, _, _, hk⟩ := wf_parts h
  obtain ⟨q, hq, rfl⟩ := List.mem_iff_getElem.1 hx
  exact hk q hq
theorem lenM {k : Nat} {t : Vl} (h : wfB (k + 1) t = true) (h5 : t.kind = 5) : t.names.length = t.list.length := (wf_parts h).2.2.2.1 h5 |>.1
theorem onceM {k : Nat} {t : Vl} (h : wfB (k + 1) t = true) (h5 : t.kind = 5) : onceB [] t.names = true := (wf_parts h).2.2.2.1 h5 |>.2

theorem vz_srt {vz : Vl → Nat} (hv : IsVz vz) : ∀ (k : Nat) (t : Vl), wfB k t = true → vz (srt k t) = vz t
  | 0, _, _ => rfl
  | k + 1, t, h => by
    have hm : ∀ x ∈ t.list, vz (srt k x) = vz x := fun x hx => vz_srt hv k x (kidsM h x hx)
    rw [hv t, hv (srt (k + 1) t)]
    by_cases h5 : t.kind = 5
    · have e : srt (k + 1) t = ⟨t.kind, t.num, t.text, (sortP (prsS k t)).map (·.2), (sortP (prsS k t)).map (·.1)⟩ := srt_tree h5
      have h1 : sumL vz ((sortP (prsS k t)).map (·.2)) = sumL vz t.list := by
        rw [sumL_permM _ ((sortP_perm (prsS k t)).map (·.2)), prsS_snd (lenM h h5), sumL_mapM _ _ _ hm]
      rw [e]
      show sumL vz _ + 1 = _
      rw [h1]
    · rw [srt_else h5]
      show sumL vz _ + 1 = _
      rw [sumL_mapM _ _ _ hm]
theorem dep_srt {dep : Vl → Nat} (hv : IsDep dep) : ∀ (k : Nat) (t : Vl), wfB k t = true → dep (srt k t) = dep t
  | 0, _, _ => rfl
  | k + 1, t, h => by
    have hm : ∀ x ∈ t.list, dep (srt k x) = dep x := fun x hx => dep_srt hv k x (kidsM h x hx)
    rw [hv t, hv (srt (k + 1) t)]
    by_cases h5 : t.kind = 5
    · have e : srt (k + 1) t = ⟨t.kind, t.num, t.text, (sortP (prsS k t)).map (·.2), (sortP (prsS k t)).map (·.1)⟩ := srt_tree h5
      have h1 : maxL dep ((sortP (prsS k t)).map (·.2)) = maxL dep t.list := by
        rw [maxL_permM _ ((sortP_perm (prsS k t)).map (·.2)), prsS_snd (lenM h h5), maxL_mapM _ _ _ hm]
      rw [e]
      show maxL dep _ + 1 = _
      rw [h1]
    · rw [srt_else h5]
      show maxL dep _ + 1 = _
      rw [maxL_mapM _ _ _ hm]

theorem names_neM {l : List ByteArray} (h : onceB [] l = true) : l.Pairwise (· ≠ ·) := once_nodup l [] h
theorem strictM {k : Nat} {t : Vl} (h : wfB (k + 1) t = true) (h5 : t.kind = 5) : (sortP (prsS k t)).Pairwise (fun a b => bLt a.1 b.1 = true) := by
  refine strict_of ?_ ((sortP_sorted (prsS k t)).imp (fun {a b} hab => by simpa [prLe] using hab))
  have h1 : ((sortP (prsS k t)).map (·.1)).Perm t.names := by
    have h2 := (sortP_perm (prsS k t)).map (·.1)
    rw [prsS_fst (lenM h h5)] at h2
    exact h2
  exact (h1.pairwise_iff (fun {x y} hxy => hxy.symm)).2 (names_neM (onceM h h5))

theorem map_idM {f : Vl → Vl} : ∀ {l : List Vl}, (∀ x ∈ l, f x = x) → l.map f = l
  | [], _ => rfl
  | x :: r, h => by
    rw [List.map_cons, h x List.mem_cons_self, map_idM (fun y hy => h y (List.mem_cons_of_mem _ hy))]
theorem srt_idem : ∀ (k : Nat) (t : Vl), wfB k t = true → srt k (srt k t) = srt k t
  | 0, _, _ => rfl
  | k + 1, t, h => by
    have hm : ∀ x ∈ t.list.map (srt k), srt k x = x := fun x hx => by
      obtain ⟨y, hy, rfl⟩ := List.mem_map.1 hx
      exact srt_idem k y (kidsM h y hy)
    by_cases h5 : t.kind = 5
    · have e : srt (k + 1) t = ⟨t.kind, t.num, t.text, (sortP (prsS k t)).map (·.2), (sortP (prsS k t)).map (·.1)⟩ := srt_tree h5
      rw [e]
      have hs : ((sortP (prsS k t)).map (·.2)).map (srt k) = (sortP (prsS k t)).map (·.2) := map_idM (fun x hx => by
        have h1 := ((sortP_perm (prsS k t)).map (·.2)).mem_iff.1 hx
        rw [prsS_snd (lenM h h5)] at h1
        exact hm x h1)
      have e2 : srt (k + 1) ⟨t.kind, t.num, t.text, (sortP (prsS k t)).map (·.2), (sortP (prsS k t)).map (·.1)⟩ =
          ⟨t.kind, t.num, t.text, (sortP (((sortP (prsS k t)).map (·.1)).zip (((sortP (prsS k t)).map (·.2)).map (srt k)))).map (·.2), (sortP (((sortP (prsS k t)).map (·.1)).zip (((sortP (prsS k t)).map (·.2)).map (srt k)))).map (·.1)⟩ :=
        srt_tree (t := ⟨t.kind, t.num, t.text, (sortP (prsS k t)).map (·.2), (sortP (prsS k t)).map (·.1)⟩) h5
      rw [e2, hs, zip_back, ← sortP_unique (List.Perm.refl (sortP (prsS k t))) (strictM h h5)]
    · rw [srt_else h5]
      rw [srt_else (t := ⟨t.kind, t.num, t.text, t.list.map (srt k), t.names⟩) h5]
      show Vl.mk _ _ _ _ _ = Vl.mk _ _ _ _ _
      rw [map_idM hm]

/-- In pairs whose names are all others, a name has its value. -/
theorem findL_pair : ∀ (P : List Pr), (P.map (·.1)).Pairwise (· ≠ ·) → ∀ p ∈ P, findL (P.map (·.1)) (P.map (·.2)) p.1 = some p.2
  | [], _, p, hp => by simp at hp
  | x :: r, h, p, hp => by
    rw [List.map_cons, List.pairwise_cons] at h
    simp only [List.map_cons, findL]
    rcases List.mem_cons.1 hp with rfl | hp
    · rw [if_pos (by simp)]
    · have hne : x.1 ≠ p.1 := h.1 p.1 (List.mem_map.2 ⟨p, hp, rfl⟩)
      rw [if_neg (fun he => hne (text_same he))]
      exact findL_pair r h.2 p hp

theorem tree_srt {k : Nat} {t : Vl} (h : wfB (k + 1) t = true) (h5 : t.kind = 5) {i : Nat} (hi : i < t.names.length) (hi' : i < t.list.length) : treeO (srt (k + 1) t) t.names[i] = some (srt k t.list[i]) := by
  have e : srt (k + 1) t = ⟨t.kind, t.num, t.text, (sortP (prsS k t)).map (·.2), (sortP (prsS k t)).map (·.1)⟩ := srt_tree h5
  rw [e]
  unfold treeO
  show (if t.kind = 5 then findL ((sortP (prsS k t)).map (·.1)) ((sortP (prsS k t)).map (·.2)) t.names[i] else none) = _
  rw [if_pos h5]
  have hmem : (t.names[i], srt k t.list[i]) ∈ sortP (prsS k t) := by
    refine (sortP_perm (prsS k t)).mem_iff.2 ?_
    unfold prsS
    refine List.mem_iff_getElem.2 ⟨i, by rw [List.length_zip, List.length_map]; omega, ?_⟩
    simp
  refine findL_pair (sortP (prsS k t)) ?_ _ hmem
  have h1 : ((sortP (prsS k t)).map (·.1)).Perm t.names := by
    have h2 := (sortP_perm (prsS k t)).map (·.1)
    rw [prsS_fst (lenM h h5)] at h2
    exact h2
  exact (h1.pairwise_iff (fun {x y} hxy => hxy.symm)).2 (names_neM (onceM h h5))

/-- The names of a sorted tree are in order. -/
theorem names_srt {k : Nat} {t : Vl} (h : wfB (k + 1) t = true) (h5 : t.kind = 5) {i : Nat} (hi : i + 1 < (srt (k + 1) t).names.length) : bLt (srt (k + 1) t).names[i] (srt (k + 1) t).names[i + 1] = true := by
  have h1 : ((srt (k + 1) t).names).Pairwise (fun a b => bLt a b = true) := by
    have e : (srt (k + 1) t).names = (sortP (prsS k t)).map (·.1) := by rw [srt_tree h5]; rfl
    rw [e, List.pairwise_map]
    exact strictM h h5
  exact List.pairwise_iff_getElem.1 h1 i (i + 1) (by omega) hi (by omega)
theorem len_srt {k : Nat} {t : Vl} (h : wfB (k + 1) t = true) : (srt (k + 1) t).names.length = t.names.length ∧ (srt (k + 1) t).list.length = t.list.length := by
  by_cases h5 : t.kind = 5
  · have e : srt (k + 1) t = ⟨t.kind, t.num, t.text, (sortP (prsS k t)).map (·.2), (sortP (prsS k t)).map (·.1)⟩ := srt_tree h5
    have hl := (sortP_perm (prsS k t)).length_eq
    rw [e]
    simp only [List.length_map]
    rw [hl, prsS_len (lenM h h5), lenM h h5]
    exact ⟨rfl, rfl⟩
  · rw [srt_else h5]
    exact ⟨rfl, by simp⟩

/-! ### What ValueSorted answers, of what is ok -/
theorem sortG_yes {k : Nat} {t : Vl} (h : okB false 6 t = true) : sortG k t = srt (k + 2) t := by unfold sortG; rw [h]; rfl
theorem sortG_no {k : Nat} {t : Vl} (h : okB false 6 t = false) : sortG k t = zeroV := by unfold sortG; rw [h]; rfl
theorem treeG_yes {t : Vl} {s : ByteArray} (h : okB false 6 t = true) : treeG t s = treeO t s := by unfold treeG; rw [h]; rfl

end Go.Proofs.Ytdaohfeajicamaa

namespace Go.Proofs.Ytdaohfeajicamaa
open Go.RowKit
set_option linter.unusedVariables false
set_option linter.unusedSimpArgs false

set_option maxHeartbeats 2000000 in
theorem drawValueSorted_any (a : Option Addr) (len cap : Nat) (w : World) (hl : len ≤ 1048576) (hcap : len ≤ cap) (hc : CodeAt w a len) :
    Calls Try.prog 16 #[.slice a len cap] w fun e w' => ∃ (t : Vl) (x : Option Addr) (xc : Nat) (y : Option Addr) (yc : Nat), e = .returned (.agg #[.int .i64 t.kind, .int .i64 t.num, .string t.text, .slice x t.list.length xc, .slice y t.names.length yc]) ∧
      VlQ w' 0 20 t [.int .i64 t.kind, .int .i64 t.num, .string t.text, .slice x t.list.length xc, .slice y t.names.length yc] ∧ Below w.heap.size w w' ∧ SzLe t 100000 := by
  have HC : Hid (CodeAt w a len) := hc
  clear hc
  go_enter Try.func16, Try.ntmps16
  go_wp2_with fail
  refine (l1Open_any a len cap _ hl hcap (HC.out.belowV ((Below.refl _ _).alloc (Nat.le_refl _) _))).mono ?_
  rintro e w1 ⟨n, rfl, hR, hb⟩
  have hs1 : (w.alloc (.cells #[.int .i64 0, .int .i64 0, .string ⟨#[]⟩, .slice none 0 0, .slice none 0 0] 29)).heap.size = w.heap.size + 1 := by simp
  rw [hs1] at hR hb ⊢
  have hB1 : Below w.heap.size w w1 := ((Below.refl _ _).alloc (Nat.le_refl _) _).trans (hb.mono (by omega))
  have hO1 : Owns w1 w.heap.size #[.int .i64 0, .int .i64 0, .string ⟨#[]⟩, .slice none 0 0, .slice none 0 0] 29 := (Owns.made w _ _).below hb (by omega)
  have HR : Hid (RdAt w1 (w.heap.size + 1) a n cap 0) := hR
  have HB1 : Hid (Below w.heap.size w w1) := hB1
  have HO1 : Hid (Owns w1 w.heap.size #[.int .i64 0, .int .i64 0, .string ⟨#[]⟩, .slice none 0 0, .slice none 0 0] 29) := hO1
  clear hR hb hs1 hB1 hO1
  go_wp2_with fail
  refine (l13AnyValue_any (w.heap.size + 1) a n cap 0 w1 (by omega) HR.out).mono ?_
  rintro e w2 ⟨t, x, xc, y, yc, p', rfl, hQ, hR2, _, hT2, hZ⟩
  obtain ⟨⟨r0, r1, r2, r3, r4⟩, rz⟩ := five_zero (Owns.turnsW hT2 (by omega) HO1.out)
  have HB2 : Hid (Below w.heap.size w w2) := ⟨hT2.os.trans HB1.out.os, hT2.tape.trans HB1.out.tape, hT2.output.trans HB1.out.output, Nat.le_trans HB1.out.size hT2.size, fun b hb => (hT2.block b (by have := HB1.out.size; omega) (by simp; omega)).trans (HB1.out.block b hb)⟩
  have hw1 : w.heap.size < w1.heap.size := HO1.out.lt
  have HQ : Hid (VlQ w2 w1.heap.size 20 t [.int .i64 t.kind, .int .i64 t.num, .string t.text, .slice x t.list.length xc, .slice y t.names.length yc]) := hQ
  have HZ : Hid (SzLe t 100000) := hZ
  clear hQ hR2 hT2 hZ HR HO1 HB1
  go_wp2_with fail
  refine bodyPost_ret (v := .agg #[.int .i64 t.kind, .int .i64 t.num, .string t.text, .slice x t.list.length xc, .slice y t.names.length yc]) (by simp [results, Try.results16, go_sem, r0, r1, r2, r3, r4]) rfl ?_
  have hk : Keeps w1.heap.size w2 (w2.setCells w.heap.size 0 [.int .i64 t.kind, .int .i64 t.num, .string t.text, .slice x t.list.length xc, .slice y t.names.length yc]) := ⟨by rw [size_setCells]; exact Nat.le_refl _, fun k h1 _ => heap_setCells_ne _ _ _ _ (by omega)⟩
  exact ⟨t, x, xc, y, yc, rfl, VlQ.base (Nat.zero_le _) _ _ _ (VlQ.keeps hk _ _ _ HQ.out), Below.setCells (Nat.le_refl _) [.int .i64 t.kind, .int .i64 t.num, .string t.text, .slice x t.list.length xc, .slice y t.names.length yc] 0 HB2.out, HZ.out⟩


/-- A value that owns its memory may be walked through. -/
theorem VlO.pinS {w : World} {B : Nat} : ∀ (k lo hi : Nat) (t : Vl) (x y z vl vn : Value), VlO w k lo hi t [x, y, z, vl, vn] → hi ≤ B → PIn w B k t.list vl
  | 0, _, _, _, _, _, _, _, _, h, _ => h.elim
  | k + 1, lo, hi, t, x, y, z, vl, vn, ⟨vl', vn', q0, q1, h1, _, _, _, h5, h6, h7, h8, h9, h10⟩, hB => by
    simp only [List.cons.injEq, and_true] at h1
    obtain ⟨_, _, _, rfl, rfl⟩ := h1
    rcases h7 with ⟨hl, rfl⟩ | ⟨b, c, p, rfl, g1, g2, g3, g4, g5, g6, g7, g8⟩
    · exact Or.inl ⟨hl, none, 0, rfl⟩
    · have hb := h9 b (At.mk _ _ _)
      refine Or.inr ⟨b, 0, t.list.length, rfl, by omega, ⟨c, _, g2⟩, g1, fun i hi => ?_⟩
      obtain ⟨cs, a1, a2, a3⟩ := g8 i hi
      have h4 : p (i + 1) ≤ p t.list.length := chain_le g7 (by omega) (Nat.le_refl _)
      obtain ⟨a, c', a', c'', hcs⟩ := a3.cells
      subst hcs
      refine ⟨_, ?_, VlO.pinS k _ _ _ _ _ _ _ _ a3 (by omega)⟩
      rw [g2.cell, Nat.zero_add, a2 3 (by omega)]
      rfl

/-- What answers just so and keeps all that was there, keeps what hangs on that. -/
theorem keptS {f : Nat} {args : Array Value} {W w0 : World} {e0 : Ending} {C : World → Prop} (hC : ∀ W, Below w0.heap.size w0 W → C W) (hB : Hid (Below w0.heap.size w0 W)) (h : Calls Try.prog f args W fun e w' => e = e0 ∧ Below W.heap.size W w') :
    Calls Try.prog f args W fun e w' => e = e0 ∧ C w' ∧ Hid (Below w0.heap.size w0 w') := by
  refine h.mono ?_
  rintro e w' ⟨rfl, hb⟩
  have h1 : Below w0.heap.size w0 w' := hB.out.trans (hb.mono hB.out.size)
  exact ⟨rfl, hC _ h1, h1⟩
theorem keptSS (k : Nat) (hk : 5 ≤ k) {t X : Vl} {vl vn : Value} {W w0 : World} {C : World → Prop} (hX : sortG k t = X) (hC : ∀ W, Below w0.heap.size w0 W → C W) (hB : Hid (Below w0.heap.size w0 W)) (hV : VlR W 0 (k + 2) t [.int .i64 t.kind, .int .i64 t.num, .string t.text, vl, vn]) :
    Calls Try.prog 10 #[.agg #[.int .i64 t.kind, .int .i64 t.num, .string t.text, vl, vn]] W fun e w1 => ∃ (p1 : Option Addr) (n1 : Nat) (p1' : Option Addr) (n1' : Nat), e = .returned (.agg #[.int .i64 X.kind, .int .i64 X.num, .string X.text, .slice p1 X.list.length n1, .slice p1' X.names.length n1']) ∧ C w1 ∧ Hid (VlR w1 0 (k + 2) X [.int .i64 X.kind, .int .i64 X.num, .string X.text, .slice p1 X.list.length n1, .slice p1' X.names.length n1']) ∧ Hid (Below w0.heap.size w0 w1) := by
  subst hX
  refine (specValueSorted_any k hk t vl vn W hV).mono ?_
  rintro e w1 ⟨vl1, vn1, rfl, hR, hb⟩
  obtain ⟨p1, n1, p1', n1', hv⟩ := hR.cells
  simp only [List.cons.injEq, true_and, and_true] at hv
  obtain ⟨rfl, rfl⟩ := hv
  have h1 : Below w0.heap.size w0 w1 := hB.out.trans (hb.mono hB.out.size)
  exact ⟨p1, n1, p1', n1', rfl, hC _ h1, hR, h1⟩
theorem keptSI (k : Nat) (hk : 5 ≤ k) {t X : Vl} {vl vn : Value} {W w0 : World} {C : World → Prop} (hX : sortG k t = X) (hC : ∀ W, Below w0.heap.size w0 W → C W) (hB : Hid (Below w0.heap.size w0 W)) (hV : VlR W 0 (k + 2) t [.int .i64 t.kind, .int .i64 t.num, .string t.text, vl, vn]) :
    Calls Try.prog 12 #[.agg #[.int .i64 t.kind, .int .i64 t.num, .string t.text, vl, vn]] W fun e w1 => ∃ (p1 : Option Addr) (n1 : Nat) (p1' : Option Addr) (n1' : Nat), e = .returned (.agg #[.int .i64 X.kind, .int .i64 X.num, .string X.text, .slice p1 X.list.length n1, .slice p1' X.names.length n1']) ∧ C w1 ∧ Hid (VlR w1 0 (k + 2) X [.int .i64 X.kind, .int .i64 X.num, .string X.text, .slice p1 X.list.length n1, .slice p1' X.names.length n1']) ∧ Hid (Below w0.heap.size w0 w1) := by
  subst hX
  have hc := implValueSorted_any k hk t vl vn W hV
  unfold ImplSO at hc
  refine hc.mono ?_
  rintro e w1 ⟨vl1, vn1, rfl, hO, hb⟩
  obtain ⟨p1, n1, p1', n1', hv⟩ := hO.cells
  simp only [List.cons.injEq, true_and, and_true] at hv
  obtain ⟨rfl, rfl⟩ := hv
  have h1 : Below w0.heap.size w0 w1 := hB.out.trans (hb.mono hB.out.size)
  exact ⟨p1, n1, p1', n1', rfl, hC _ h1, VlR.base (Nat.zero_le _) _ _ _ (VlO.read _ _ _ _ _ hO), h1⟩
/-- impl.TreeGet of a name that is there. -/
theorem keptTG (k : Nat) (hk : 5 ≤ k) {t X : Vl} {s : ByteArray} {vl vn : Value} {W w0 : World} {C : World → Prop} (hs : s.size ≤ 140737488351232) (hX : treeG t s = some X) (hC : ∀ W, Below w0.heap.size w0 W → C W) (hB : Hid (Below w0.heap.size w0 W)) (hV : VlR W 0 (k + 2) t [.int .i64 t.kind, .int .i64 t.num, .string t.text, vl, vn]) :
    Calls Try.prog 19 #[.agg #[.int .i64 t.kind, .int .i64 t.num, .string t.text, vl, vn], .string s] W fun e w1 => ∃ (p1 : Option Addr) (n1 : Nat) (p1' : Option Addr) (n1' : Nat), e = .returned (.tuple #[.agg #[.int .i64 X.kind, .int .i64 X.num, .string X.text, .slice p1 X.list.length n1, .slice p1' X.names.length n1'], .bool true]) ∧ C w1 ∧ Hid (VlR w1 W.heap.size (k + 1) X [.int .i64 X.kind, .int .i64 X.num, .string X.text, .slice p1 X.list.length n1, .slice p1' X.names.length n1']) ∧ Hid (Below w0.heap.size w0 w1) ∧ Hid (Below W.heap.size W w1) := by
  have hc := implTreeGet_any k hk t vl vn s W hs hV
  unfold ImplTG at hc
  rw [hX] at hc
  refine hc.mono ?_
  rintro e w1 ⟨vl1, vn1, rfl, hO, hb⟩
  obtain ⟨p1, n1, p1', n1', hv⟩ := hO.cells
  simp only [List.cons.injEq, true_and, and_true] at hv
  obtain ⟨rfl, rfl⟩ := hv
  have h1 : Below w0.heap.size w0 w1 := hB.out.trans (hb.mono hB.out.size)
  exact ⟨p1, n1, p1', n1', rfl, hC _ h1, VlO.read _ _ _ _ _ hO, h1, hb⟩
/-- A box that is written anew. -/
theorem set5S {w : World} {B : Nat} {z0 z1 z2 z3 z4 y0 y1 y2 y3 y4 : Value} (h0 : w.cell? ⟨B, 0, none⟩ = some z0) (h1 : w.cell? ⟨B, 1, none⟩ = some z1) (h2 : w.cell? ⟨B, 2, none⟩ = some z2) (h3 : w.cell? ⟨B, 3, none⟩ = some z3) (h4 : w.cell? ⟨B, 4, none⟩ = some z4) :
    (((((w.setCell ⟨B, 0, none⟩ y0).setCell ⟨B, 1, none⟩ y1).setCell ⟨B, 2, none⟩ y2).setCell ⟨B, 3, none⟩ y3).setCell ⟨B, 4, none⟩ y4).cell? ⟨B, 0, none⟩ = some y0 ∧ (((((w.setCell ⟨B, 0, none⟩ y0).setCell ⟨B, 1, none⟩ y1).setCell ⟨B, 2, none⟩ y2).setCell ⟨B, 3, none⟩ y3).setCell ⟨B, 4, none⟩ y4).cell? ⟨B, 1, none⟩ = some y1 ∧ (((((w.setCell ⟨B, 0, none⟩ y0).setCell ⟨B, 1, none⟩ y1).setCell ⟨B, 2, none⟩ y2).setCell ⟨B, 3, none⟩ y3).setCell ⟨B, 4, none⟩ y4).cell? ⟨B, 2, none⟩ = some y2 ∧ (((((w.setCell ⟨B, 0, none⟩ y0).setCell ⟨B, 1, none⟩ y1).setCell ⟨B, 2, none⟩ y2).setCell ⟨B, 3, none⟩ y3).setCell ⟨B, 4, none⟩ y4).cell? ⟨B, 3, none⟩ = some y3 ∧ (((((w.setCell ⟨B, 0, none⟩ y0).setCell ⟨B, 1, none⟩ y1).setCell ⟨B, 2, none⟩ y2).setCell ⟨B, 3, none⟩ y3).setCell ⟨B, 4, none⟩ y4).cell? ⟨B, 4, none⟩ = some y4 := by
  refine ⟨?_, ?_, ?_, ?_, ?_⟩ <;> simp [World.cell?_setCell_other, World.cell?_setCell_same', h0, h1, h2, h3, h4]
theorem keep5S {w : World} {B : Nat} {y0 y1 y2 y3 y4 : Value} : Keeps (B + 1) w (((((w.setCell ⟨B, 0, none⟩ y0).setCell ⟨B, 1, none⟩ y1).setCell ⟨B, 2, none⟩ y2).setCell ⟨B, 3, none⟩ y3).setCell ⟨B, 4, none⟩ y4) :=
  ⟨by simp [World.setCell], fun k h1 _ => by
    simp only [World.setCell, Array.getElem?_modify]
    repeat rw [if_neg (by omega)]⟩
theorem below5S {b : Nat} {w w' : World} {B : Nat} {y0 y1 y2 y3 y4 : Value} (hB : b ≤ B) (h : Below b w w') : Below b w (((((w'.setCell ⟨B, 0, none⟩ y0).setCell ⟨B, 1, none⟩ y1).setCell ⟨B, 2, none⟩ y2).setCell ⟨B, 3, none⟩ y3).setCell ⟨B, 4, none⟩ y4) :=
  ((((h.setCell hB _).setCell hB _).setCell hB _).setCell hB _).setCell hB _
/-- A box that was made ahead of a call is as it was made. -/
theorem newbox_kept {wr wT : World} {y0 y1 y2 y3 y4 : Value} {e : TypeId} (h : Hid (Below (wr.alloc (Obj.cells #[y0, y1, y2, y3, y4] e)).drew.heap.size (wr.alloc (Obj.cells #[y0, y1, y2, y3, y4] e)).drew wT)) :
    (wT.cell? ⟨wr.heap.size, 0, none⟩ = some y0 ∧ wT.cell? ⟨wr.heap.size, 1, none⟩ = some y1 ∧ wT.cell? ⟨wr.heap.size, 2, none⟩ = some y2 ∧ wT.cell? ⟨wr.heap.size, 3, none⟩ = some y3 ∧ wT.cell? ⟨wr.heap.size, 4, none⟩ = some y4) ∧ (∀ o, wT.frozen? ⟨wr.heap.size, o, none⟩ = false) ∧ wr.heap.size < wT.heap.size := by
  have h1 : Below (wr.alloc (Obj.cells #[y0, y1, y2, y3, y4] e)).heap.size (wr.alloc (Obj.cells #[y0, y1, y2, y3, y4] e)) wT := ((Below.refl _ _).drew).trans h.out
  have h2 : Owns wT wr.heap.size #[y0, y1, y2, y3, y4] e := (Owns.made wr _ _).below h1 (by simp)
  exact ⟨five_ofV h2.cell, fun o => h2.frozen o, h2.lt⟩
theorem far5S {w : World} {B b o : Nat} {y0 y1 y2 y3 y4 v : Value} (hne : b ≠ B) (h : w.cell? ⟨b, o, none⟩ = some v) : (((((w.setCell ⟨B, 0, none⟩ y0).setCell ⟨B, 1, none⟩ y1).setCell ⟨B, 2, none⟩ y2).setCell ⟨B, 3, none⟩ y3).setCell ⟨B, 4, none⟩ y4).cell? ⟨b, o, none⟩ = some v := by
  have hn : B ≠ b := fun e => hne e.symm
  rw [World.cell?_setCell_far _ _ _ _ (by exact hn), World.cell?_setCell_far _ _ _ _ (by exact hn), World.cell?_setCell_far _ _ _ _ (by exact hn), World.cell?_setCell_far _ _ _ _ (by exact hn), World.cell?_setCell_far _ _ _ _ (by exact hn)]
  exact h
theorem below_endS {w w0 W : World} (h : Hid (Below w.heap.size w w0)) (h0 : Hid (Below w0.heap.size w0 W)) : Below w.heap.size w W := h.out.trans (h0.out.mono h.out.size)
theorem ok_childS {t x : Vl} (h : okB false 6 t = true) (hx : x ∈ t.list) : okB false 5 x = true := by
  rw [okB_succ] at h
  simp only [Bool.and_eq_true, List.all_eq_true] at h
  exact h.2 x hx
theorem ok_namesS {t : Vl} (h : okB false 6 t = true) : t.names.length = 0 ∨ (t.kind = 5 ∧ t.names.length = t.list.length) := by
  by_cases h5 : t.kind = 5
  · exact Or.inr ⟨h5, (ok_five h5 h).1⟩
  · left
    cases hp : partsB t.kind t.num t.text t.list.length t.names.length
    · rw [ok_parts false 5 hp] at h; exact absurd h (by decide)
    · exact parts_no_names hp h5

end Go.Proofs.Ytdaohfeajicamaa
