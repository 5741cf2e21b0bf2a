
/-
  DERIVED. THE OTHER SIDE's SORTED VALUE: the walk of spec.l8Sorted.
-/
import Derived.Test.YtdaohfeajicamaaSoA
import Derived.Test.YtdaohfeajicamaaSoJ
import Derived.Test.YtdaohfeajicamaaSoR
import Derived.Test.YtdaohfeajicamaaSrtI
import Derived.Test.YtdaohfeajicamaaVlCopyW
import Derived.BigQuiet
import Derived.BigRegion
import Derived.Deep.RegionHeld3
import Derived.Deep.CutBlock
namespace Go.Proofs.Ytdaohfeajicamaa
open Go.RowKit
set_option linter.unusedVariables false
set_option linter.unusedSimpArgs false

def SortC (k : Nat) : Prop := ∀ (t : Vl) (vl vn : Value) (w : World), VlR w 0 k t [.int .i64 t.kind, .int .i64 t.num, .string t.text, vl, vn] → wfB k t = true →
  Calls Try.prog 32 #[.agg #[.int .i64 t.kind, .int .i64 t.num, .string t.text, vl, vn]] w fun e w' =>
    ∃ p n p' n', e = .returned (.agg #[.int .i64 t.kind, .int .i64 t.num, .string t.text, .slice p (srt k t).list.length n, .slice p' (srt k t).names.length n']) ∧
      VlK w' w.heap.size w'.heap.size k (srt k t) [.int .i64 t.kind, .int .i64 t.num, .string t.text, .slice p (srt k t).list.length n, .slice p' (srt k t).names.length n'] ∧ Below w.heap.size w w'

set_option maxHeartbeats 8000000 in
set_option maxRecDepth 8000 in
theorem sortS_step (k : Nat) (ih : SortC k) : SortC (k + 1) := by
  intro t vl vn w ht hwf
  obtain ⟨hp, hk0, hk5, htree, hkids⟩ := wf_parts hwf
  have hnn : t.kind ≠ 5 → t.names.length = 0 := fun h => wf_names hwf h
  obtain ⟨vl', vn', hv, hkd, hnm, hn, hrow, hnames⟩ := ht
  simp only [List.cons.injEq, true_and, and_true] at hv
  obtain ⟨rfl, rfl⟩ := hv
  obtain ⟨a, c, rfl, hw, hrest⟩ := Row.len hrow
  obtain ⟨a', c', rfl, hw', hrest'⟩ := StrRow.len hnames
  have hli : (t.list.length : Int) ≤ 140737488351232 := by omega
  have hni : (t.names.length : Int) ≤ 140737488351232 := by omega
  obtain ⟨i0, hi0, hz0, hz1, hz2⟩ := info_impl_Value
  obtain ⟨i1, hj0, hy0, hy1, hy2⟩ := info_string
  have HR : Hid _ := hrest
  have HN : Hid _ := hrest'
  have HW : Hid (t.list.length * 80 ≤ 140737488351232 ∧ t.names.length * 16 ≤ 140737488351232) := ⟨hw, hw'⟩
  have HWF : Hid ((t.kind = 5 → t.names.length = t.list.length ∧ onceB [] t.names = true) ∧ (∀ (j : Nat) (hj : j < t.list.length), wfB k t.list[j] = true) ∧ (t.kind ≠ 5 → t.names.length = 0)) := ⟨htree, hkids, hnn⟩
  clear hrow hnames hrest hrest' htree hkids hnn hp hwf hk0 hk5
  go_enter Try.func32, Try.ntmps32
  go_wp2_with fail
  go_loopw [4] (fun iv wr => ∃ (i : Nat) (L : List Vl) (N : List ByteArray) (oa : Option Addr) (oc : Nat) (oa' : Option Addr) (oc' : Nat) (xs : List Value), i ≤ t.list.length ∧ iv = .int .i64 i ∧ Hid (L.length = i) ∧ Hid (DoneS k t i L N) ∧
    Hid (OutL k (w.heap.size + 3) wr L (.slice oa i oc) xs) ∧ Hid (OutN (w.heap.size + 3) wr N (.slice oa' N.length oc')) ∧
    Hid (Owns wr w.heap.size #[.int .i64 t.kind, .int .i64 t.num, .string t.text, .slice a t.list.length c, .slice a' t.names.length c'] 29) ∧ Hid (Owns wr (w.heap.size + 1) #[.int .i64 0, .int .i64 0, .string ⟨#[]⟩, .slice none 0 0, .slice none 0 0] 29) ∧
    Hid (Owns wr (w.heap.size + 1 + 1) #[.int .i64 t.kind, .int .i64 t.num, .string t.text, .slice oa i oc, .slice oa' N.length oc'] 29) ∧ Hid (Below w.heap.size w wr) ∧ Hid (w.heap.size + 3 ≤ wr.heap.size) ∧ Hid (i = 0 → oa = none ∧ oc = 0 ∧ oa' = none ∧ oc' = 0)) (fun i _ => t.list.length - (intOf i).toNat)
  case atStart =>
    refine ⟨0, [], [], none, 0, none, 0, [], Nat.zero_le _, rfl, rfl, ⟨fun _ => ⟨rfl, rfl⟩, fun _ => ⟨[], rfl, rfl, List.Pairwise.nil, List.Perm.nil⟩⟩, OutL.nil _ _ _, OutN.nil _ _, ?_, ?_, ?_, (((Below.refl _ _).alloc (Nat.le_refl _) _).alloc (by simp) _).alloc (by simp; omega) _, (by show _ ≤ _; simp), fun _ => ⟨rfl, rfl, rfl, rfl⟩⟩
    · exact at0' _ _ _ _
    · exact at1' _ _ _ _
    · exact at2' _ _ _ _
  case round =>
    obtain ⟨i, L, N, oa, oc, oa', oc', xs, hi, rfl, HLI, HD, HOL, HON, HO0, HO1, HO2, HBW, HSZ, HNIL⟩ := hrel
    have v0 : wr.cell? ⟨w.heap.size, 0, none⟩ = some (.int .i64 t.kind) := by rw [HO0.out.cell]; rfl
    have v3 : wr.cell? ⟨w.heap.size, 3, none⟩ = some (.slice a t.list.length c) := by rw [HO0.out.cell]; rfl
    have v4 : wr.cell? ⟨w.heap.size, 4, none⟩ = some (.slice a' t.names.length c') := by rw [HO0.out.cell]; rfl
    have o3 : wr.cell? ⟨w.heap.size + 1 + 1, 3, none⟩ = some (.slice oa i oc) := by rw [HO2.out.cell]; rfl
    have o4 : wr.cell? ⟨w.heap.size + 1 + 1, 4, none⟩ = some (.slice oa' N.length oc') := by rw [HO2.out.cell]; rfl
    by_cases hlt : i < t.list.length
    · have hlti : (i : Int) < (t.list.length : Int) := by omega
      obtain ⟨b, off, hab, _, hcs⟩ := HR.out (List.ne_nil_of_length_pos (by omega))
      subst hab
      obtain ⟨cs, hl5, hc, hR⟩ := hcs i hlt
      obtain ⟨p, n, p', n', rfl⟩ := hR.cells
      have hk : Keeps 0 w wr := Keeps.of_below HBW.out (Nat.le_refl _) _
      have HCALL : Hid (∀ W, Keeps 0 wr W → Calls Try.prog 32 #[.agg #[.int .i64 t.list[i].kind, .int .i64 t.list[i].num, .string t.list[i].text, .slice p t.list[i].list.length n, .slice p' t.list[i].names.length n']] W fun e w' => ∃ p1 n1 p1' n1',
          e = .returned (.agg #[.int .i64 t.list[i].kind, .int .i64 t.list[i].num, .string t.list[i].text, .slice p1 (srt k t.list[i]).list.length n1, .slice p1' (srt k t.list[i]).names.length n1']) ∧
          VlK w' W.heap.size w'.heap.size k (srt k t.list[i]) [.int .i64 t.list[i].kind, .int .i64 t.list[i].num, .string t.list[i].text, .slice p1 (srt k t.list[i]).list.length n1, .slice p1' (srt k t.list[i]).names.length n1'] ∧ Below W.heap.size W w') :=
        fun W hW => ih t.list[i] _ _ W (VlR.keeps hW _ _ _ (VlR.keeps hk _ _ _ hR)) (HWF.out.2.1 i hlt)
      obtain ⟨c0, c1, c2, c3, c4⟩ := (hc.keeps hk (Nat.zero_le _)).five
      obtain ⟨ti, hti⟩ : ∃ ti, t.list[i] = ti := ⟨_, rfl⟩
      obtain ⟨si, hsi⟩ : ∃ si, srt k ti = si := ⟨_, rfl⟩
      rw [hti] at HCALL c0 c1 c2 c3 c4
      rw [hsi] at HCALL
      have HTI : Hid (t.list[i] = ti ∧ srt k ti = si) := ⟨hti, hsi⟩
      clear hR hc hcs hl5 hti hsi
      have HNM : Hid (t.kind = 5 → ∃ (hil : i < t.names.length) (bn on : Nat), a' = some ⟨bn, on, none⟩ ∧ wr.cell? ⟨bn, on + i, none⟩ = some (.string t.names[i])) := fun h5 => by
        have hnl := (HWF.out.1 h5).1
        obtain ⟨bn, on, he, _, hc⟩ := HN.out (List.ne_nil_of_length_pos (by omega))
        exact ⟨by omega, bn, on, he, hk.cell (p := ⟨bn, on + i, none⟩) (Nat.zero_le _) (hc i (by omega)).1⟩
      clear hk
      go_upto_block 2 with fail
      go_cut [5] from 23 to 45 (fun kv wx => ∃ j m : Nat, kv = .int .i64 (j : Nat) ∧ j ≤ i ∧ wx = wr.drewN m ∧ Hid (t.kind ≠ 5 → j = i) ∧ Hid (MeetJ t N i j))
      case first =>
        go_wp2_with fail
        go_loopw [5] (fun kv wi => ∃ j m : Nat, kv = .int .i64 (j : Nat) ∧ j ≤ i ∧ wi = wr.drewN m ∧ Hid (t.kind ≠ 5 → j = i) ∧ Hid (AboveJ t N i j)) (fun kv _ => (intOf kv).toNat)
        case atStart => exact ⟨i, 0, rfl, Nat.le_refl _, rfl, fun _ => rfl, above_start HD.out HLI.out⟩
        case round =>
          obtain ⟨j, m, rfl, hj, rfl, HJ5, HAB⟩ := hrel
          by_cases h5 : t.kind = 5
          · have e5 : (t.kind == 5) = true := by simp [h5]
            have HNl : Hid (N.length = i) := (HAB.out h5).1
            obtain ⟨hb3n, bn, on, rfl, n1⟩ := HNM.out h5
            have HNL2 : Hid (t.names.length = t.list.length) := (HWF.out.1 h5).1
            clear HNM
            rcases Nat.eq_zero_or_pos j with h0 | h0
            · subst h0
              go_wp2_with fail
              go_quiet (fail)
              go_wp2_with fail
              go_meet
              case rel => exact ⟨0, m + nq, rfl, hj, World.drewN_drewN _ _ _, HJ5, meet_zero HAB.out⟩
            · obtain ⟨jm, hjm⟩ : ∃ jm, j = jm + 1 := ⟨j - 1, by omega⟩
              have hgt : decide ((0 : Int) < (j : Int)) = true := by simpa using h0
              have hsub : IntKind.i64.wrap ((j : Int) - 1) = (jm : Int) := by rw [IntKind.wrap_i64]; omega
              have hjl : jm < N.length := by rw [HNl.out]; omega
              obtain ⟨g', hg'⟩ : ∃ g', oa' = some ⟨g', 0, none⟩ := HON.out.some_of (by rw [HNl.out]; omega)
              subst hg'
              have n2 : wr.cell? ⟨g', jm, none⟩ = some (.string N[jm]) := by
                have h2 := World.ownsRow.cells HON.out rfl jm (.string N[jm]) (by rw [List.getElem?_map, List.getElem?_eq_getElem hjl]; rfl)
                rw [Addr.add_mid, Nat.zero_add] at h2
                exact h2
              have hb1 : (0 : Int) ≤ (jm : Int) := by omega
              have hb2 : (jm : Int) < (N.length : Int) := by omega
              have hb3 : (i : Int) < (t.names.length : Int) := by rw [HNL2.out]; exact hlti
              have hb4 : (0 : Int) ≤ (i : Int) := by omega
              have hoc' : N.length ≤ oc' := HON.out.cap_of
              have hnm1 : nameAt t i = t.names[i] := nameAt_eq (by omega)
              have hdiff : N[jm] ≠ nameAt t i := done_other HD.out h5 HNL2.out ((HWF.out.1 h5).2) hlt hjl
              by_cases hb : bLt (nameAt t i) N[jm] = true
              · have e7 : Op.bytesLess N[jm].toList t.names[i].toList = false := by rw [less_bLt, ← hnm1]; exact bLt_asymm hb
                have e8 : (N[jm].toList == t.names[i].toList) = false := by
                  cases hq : N[jm].toList == t.names[i].toList
                  · rfl
                  · exact absurd (text_same hq) (by rw [← hnm1]; exact hdiff)
                have HAB2 : Hid (AboveJ t N i jm) := above_next (by rw [← hjm]; exact HAB.out) hjl hb
                clear hnm1 hdiff hb
                go_wp2_with fail
                go_quiet (fail)
                go_wp2_with fail
                exact ⟨⟨jm, m + nq, by go_num, by omega, (by first | rfl | exact World.drewN_drewN _ _ _), fun h => absurd h5 h, HAB2⟩, by simp [intOf]; omega⟩
              · have hb9 : bLt N[jm] (nameAt t i) = true := bLt_tri _ _ (fun h => hdiff h.symm) hb
                have e7 : Op.bytesLess N[jm].toList t.names[i].toList = true := by rw [less_bLt, ← hnm1]; exact hb9
                have HME : Hid (MeetJ t N i j) := by rw [hjm]; exact meet_stop (by rw [← hjm]; exact HAB.out) hjl hb9
                clear hnm1 hdiff hb hb9
                go_wp2_with fail
                go_quiet (fail)
                go_wp2_with fail
                go_meet
                case rel => exact ⟨j, m + nq, rfl, hj, World.drewN_drewN _ _ _, HJ5, HME⟩
          · have e5 : (t.kind == 5) = false := by simp [h5]
            go_wp2_with fail
            go_quiet (fail)
            go_wp2_with fail
            go_meet
            case rel => exact ⟨j, m + nq, rfl, hj, World.drewN_drewN _ _ _, HJ5, meet_no h5⟩
      case rest =>
        obtain ⟨j, m, rfl, hj, rfl, HJ5, HME⟩ := hcut
        go_upto_region 8 with fail
        obtain ⟨W0, hW0⟩ : ∃ W0, (wr.drewN m) = W0 := ⟨_, rfl⟩
        have HOL0 : Hid (OutL k (w.heap.size + 3) W0 L (.slice oa i oc) xs) := by rw [← hW0]; exact HOL.out.same (fun _ _ _ => rfl) (Nat.le_refl _)
        have HON0 : Hid (OutN (w.heap.size + 3) W0 N (.slice oa' N.length oc')) := by rw [← hW0]; exact HON.out.same (fun _ _ _ => rfl)
        have HP0 : Hid (Owns W0 w.heap.size #[.int .i64 t.kind, .int .i64 t.num, .string t.text, .slice (some ⟨b, off, none⟩) t.list.length c, .slice a' t.names.length c'] 29 ∧ Owns W0 (w.heap.size + 1) #[.int .i64 0, .int .i64 0, .string ⟨#[]⟩, .slice none 0 0, .slice none 0 0] 29 ∧ Owns W0 (w.heap.size + 1 + 1) #[.int .i64 t.kind, .int .i64 t.num, .string t.text, .slice oa i oc, .slice oa' N.length oc'] 29) := by rw [← hW0]; exact ⟨HO0.out, HO1.out, HO2.out⟩
        have HBW0 : Hid (Below w.heap.size w W0) := by rw [← hW0]; exact ⟨HBW.out.os, HBW.out.tape, HBW.out.output, HBW.out.size, HBW.out.block⟩
        have HSZ0 : Hid (w.heap.size + 3 ≤ W0.heap.size) := by rw [← hW0]; exact HSZ.out
        have HKW : Hid (Keeps 0 wr W0) := by rw [← hW0]; exact ⟨Nat.le_refl _, fun _ _ _ => rfl⟩
        have d0 : W0.cell? ⟨b, off + i * 5, none⟩ = some (.int .i64 ti.kind) := by rw [← hW0]; exact c0
        have d1 : W0.cell? ⟨b, off + i * 5 + 1, none⟩ = some (.int .i64 ti.num) := by rw [← hW0]; exact c1
        have d2 : W0.cell? ⟨b, off + i * 5 + 2, none⟩ = some (.string ti.text) := by rw [← hW0]; exact c2
        have d3 : W0.cell? ⟨b, off + i * 5 + 3, none⟩ = some (.slice p ti.list.length n) := by rw [← hW0]; exact c3
        have d4 : W0.cell? ⟨b, off + i * 5 + 4, none⟩ = some (.slice p' ti.names.length n') := by rw [← hW0]; exact c4
        have q3 : W0.cell? ⟨w.heap.size, 3, none⟩ = some (.slice (some ⟨b, off, none⟩) t.list.length c) := by rw [HP0.out.1.cell]; rfl
        rw [hW0]
        clear hW0 HOL HON HO0 HO1 HO2 HBW HSZ c0 c1 c2 c3 c4 v0 v3 v4 o3 o4
        go_cut [] from 46 to 65 (fun wx => ∃ (g3 cap3 : Nat) (xs' : List Value), Hid (OutL k (w.heap.size + 3) wx (insAt L j si) (.slice (some ⟨g3, 0, none⟩) (i + 1) cap3) xs') ∧ Hid (OutN (w.heap.size + 3) wx N (.slice oa' N.length oc')) ∧
          Hid (Owns wx w.heap.size #[.int .i64 t.kind, .int .i64 t.num, .string t.text, .slice (some ⟨b, off, none⟩) t.list.length c, .slice a' t.names.length c'] 29 ∧ Owns wx (w.heap.size + 1) #[.int .i64 0, .int .i64 0, .string ⟨#[]⟩, .slice none 0 0, .slice none 0 0] 29 ∧ Owns wx (w.heap.size + 1 + 1) #[.int .i64 t.kind, .int .i64 t.num, .string t.text, .slice (some ⟨g3, 0, none⟩) (i + 1) cap3, .slice oa' N.length oc'] 29) ∧
          Hid (Below w.heap.size w wx) ∧ Hid (w.heap.size + 3 ≤ wx.heap.size))
        case first =>
          rcases Nat.eq_zero_or_pos i with hz | hz
          · have e0 : ((i : Nat) : Int) = 0 := by omega
            rw [e0]
            have hlt0 : (0 : Int) < (t.list.length : Int) := by omega
            obtain ⟨rfl, rfl, rfl, rfl⟩ := HNIL.out hz
            subst hz
            obtain rfl : j = 0 := by omega
            clear e0 hlti
            have HXN : Hid (xs = []) := List.eq_nil_of_length_eq_zero (by have h := HOL0.out.own.1; rw [HLI.out] at h; simpa using h)
            rw [Nat.zero_mul, Nat.add_zero] at d0 d1 d2 d3 d4
            have HMADE : Hid (∀ W : World, W.heap = (W0.alloc (.cells #[] 29)).heap → W.ownsRow W0.heap.size 29 5 (.slice (some ⟨W0.heap.size, 0, none⟩) 0 0) 0 []) := fun W hW => by
              have h := World.ownsRow_made (base := W0.heap.size) (e := 29) (size := 5) W0 #[] 0 (Nat.le_refl _) (Nat.zero_le _) rfl
              exact row_same h (fun g hg => by rw [hW])
            have HSZ1 : Hid ((W0.alloc (.cells #[] 29)).heap.size = W0.heap.size + 1) := World.heap_size_allocS _ _
            have HAL : Hid (Below W0.heap.size W0 (W0.alloc (.cells #[] 29))) := (Below.refl _ _).alloc (Nat.le_refl _) _
            have r3 : W0.cell? ⟨w.heap.size + 1 + 1, 3, none⟩ = some (.slice none 0 0) := by rw [HP0.out.2.2.cell]; rfl
            have HHELD : Hid (∀ w', Below W0.heap.size W0 w' → w'.cell? ⟨w.heap.size + 1 + 1, 3, none⟩ = some (.slice none 0 0) ∧ w'.cell? ⟨w.heap.size, 3, none⟩ = some (.slice (some ⟨b, off, none⟩) t.list.length c) ∧ w'.cell? ⟨b, off, none⟩ = some (.int .i64 ti.kind) ∧ w'.cell? ⟨b, off + 1, none⟩ = some (.int .i64 ti.num) ∧ w'.cell? ⟨b, off + 2, none⟩ = some (.string ti.text) ∧ w'.cell? ⟨b, off + 3, none⟩ = some (.slice p ti.list.length n) ∧ w'.cell? ⟨b, off + 4, none⟩ = some (.slice p' ti.names.length n')) := fun w' hb => ⟨cell_on hb r3, cell_on hb q3, cell_on hb d0, cell_on hb d1, cell_on hb d2, cell_on hb d3, cell_on hb d4⟩
            have HFR : Hid (∀ w', Below W0.heap.size W0 w' → w'.frozen? ⟨w.heap.size + 1 + 1, 3, none⟩ = false ∧ w.heap.size + 1 + 1 < w'.heap.size) := fun w' hb => ⟨(hb.frozen (p := ⟨w.heap.size + 1 + 1, 3, none⟩) (cell_lt r3)).trans (HP0.out.2.2.frozen 3), Nat.lt_of_lt_of_le (cell_lt r3) hb.size⟩
            refine wp_region_last 20 _ rfl (fun w' => w'.cell? ⟨w.heap.size + 1 + 1, 3, none⟩ = some (.slice none 0 0) ∧ w'.cell? ⟨w.heap.size, 3, none⟩ = some (.slice (some ⟨b, off, none⟩) t.list.length c) ∧ w'.cell? ⟨b, off, none⟩ = some (.int .i64 ti.kind) ∧ w'.cell? ⟨b, off + 1, none⟩ = some (.int .i64 ti.num) ∧ w'.cell? ⟨b, off + 2, none⟩ = some (.string ti.text) ∧ w'.cell? ⟨b, off + 3, none⟩ = some (.slice p ti.list.length n) ∧ w'.cell? ⟨b, off + 4, none⟩ = some (.slice p' ti.names.length n')) (by kernel_rfl) rfl (by kernel_rfl) ?_ (fun hHeld => ?_)
            · (refine ⟨?_, ?_, ?_, ?_, ?_, ?_, ?_⟩ <;> (repeat (first | assumption | refine cell_drS ?_ | refine cell_alS ?_ _)))
            refine wpAnyH_take (i := 1) (oi := { dst := some 47, op := Op.fieldAddr 29 (Operand.tmp 3) 3, type := 0, pos := "l8_patch.go:88", after := #[], guard := none }) (v := ?_) rfl (by kernel_rfl) (by kernel_rfl) (by kernel_rfl) (fun _ _ _ h => h) (Or.inl ⟨by rfl, ?_⟩) (by assumption) ?_
            rotate_left 1
            · (intro w hSw; (try dsimp only at hSw); go_simp)
              all_goals (try with_reducible rfl)
            try simp only [Act.put, List.setIfInBounds_toArray, List.set_cons_zero, List.set_cons_succ]
            refine wpAnyH_take (i := 2) (oi := { dst := some 48, op := Op.load 27 (Operand.tmp 47), type := 27, pos := "l8_patch.go:88", after := #[{ on := 1, ground := Ground.data }], guard := none }) (v := ?_) rfl (by kernel_rfl) (by kernel_rfl) (by kernel_rfl) (fun _ _ _ h => h) (Or.inl ⟨by rfl, ?_⟩) (by assumption) ?_
            rotate_left 1
            · (intro w hSw; (try dsimp only at hSw); go_simp)
              all_goals (try with_reducible rfl)
            try simp only [Act.put, List.setIfInBounds_toArray, List.set_cons_zero, List.set_cons_succ]
            refine wpAnyH_take (i := 3) (oi := { dst := some 49, op := Op.move (Operand.tmp 5), type := 3, pos := "l8_patch.go:88", after := #[], guard := none }) (v := ?_) rfl (by kernel_rfl) (by kernel_rfl) (by kernel_rfl) (fun _ _ _ h => h) (Or.inl ⟨by rfl, ?_⟩) (by assumption) ?_
            rotate_left 1
            · (intro w hSw; (try dsimp only at hSw); go_simp)
              all_goals (try with_reducible rfl)
            try simp only [Act.put, List.setIfInBounds_toArray, List.set_cons_zero, List.set_cons_succ]
            refine wpAnyH_take (i := 4) (oi := { dst := some 50, op := Op.slice 27 (Operand.tmp 48) none (some (Operand.tmp 49)) none, type := 27, pos := "l8_patch.go:88", after := #[{ on := 2, ground := Ground.data }, { on := 3, ground := Ground.data }], guard := none }) (v := ?_) rfl (by kernel_rfl) (by kernel_rfl) (by kernel_rfl) (fun _ _ _ h => h) (Or.inl ⟨by rfl, ?_⟩) (by assumption) ?_
            rotate_left 1
            · (intro w hSw; (try dsimp only at hSw); go_simp)
              all_goals (try with_reducible rfl)
            try simp only [Act.put, List.setIfInBounds_toArray, List.set_cons_zero, List.set_cons_succ]
            refine wpAnyH_take (i := 6) (oi := { dst := some 52, op := Op.fieldAddr 29 (Operand.tmp 1) 3, type := 0, pos := "l8_patch.go:88", after := #[], guard := none }) (v := ?_) rfl (by kernel_rfl) (by kernel_rfl) (by kernel_rfl) (fun _ _ _ h => h) (Or.inl ⟨by rfl, ?_⟩) (by assumption) ?_
            rotate_left 1
            · (intro w hSw; (try dsimp only at hSw); go_simp)
              all_goals (try with_reducible rfl)
            try simp only [Act.put, List.setIfInBounds_toArray, List.set_cons_zero, List.set_cons_succ]
            refine wpAnyH_take (i := 7) (oi := { dst := some 53, op := Op.load 27 (Operand.tmp 52), type := 27, pos := "l8_patch.go:88", after := #[{ on := 6, ground := Ground.data }], guard := none }) (v := ?_) rfl (by kernel_rfl) (by kernel_rfl) (by kernel_rfl) (fun _ _ _ h => h) (Or.inl ⟨by rfl, ?_⟩) (by assumption) ?_
            rotate_left 1
            · (intro w hSw; (try dsimp only at hSw); go_simp)
              all_goals (try with_reducible rfl)
            try simp only [Act.put, List.setIfInBounds_toArray, List.set_cons_zero, List.set_cons_succ]
            refine wpAnyH_take (i := 8) (oi := { dst := some 54, op := Op.move (Operand.tmp 4), type := 3, pos := "l8_patch.go:88", after := #[], guard := none }) (v := ?_) rfl (by kernel_rfl) (by kernel_rfl) (by kernel_rfl) (fun _ _ _ h => h) (Or.inl ⟨by rfl, ?_⟩) (by assumption) ?_
            rotate_left 1
            · (intro w hSw; (try dsimp only at hSw); go_simp)
              all_goals (try with_reducible rfl)
            try simp only [Act.put, List.setIfInBounds_toArray, List.set_cons_zero, List.set_cons_succ]
            refine wpAnyH_take (i := 9) (oi := { dst := some 55, op := Op.indexAddr 27 (Operand.tmp 53) (Operand.tmp 54), type := 0, pos := "l8_patch.go:88", after := #[{ on := 7, ground := Ground.data }, { on := 8, ground := Ground.data }], guard := none }) (v := ?_) rfl (by kernel_rfl) (by kernel_rfl) (by kernel_rfl) (fun _ _ _ h => h) (Or.inl ⟨by rfl, ?_⟩) (by assumption) ?_
            rotate_left 1
            · (intro w hSw; (try dsimp only at hSw); go_simp)
              all_goals (try with_reducible rfl)
            try simp only [Act.put, List.setIfInBounds_toArray, List.set_cons_zero, List.set_cons_succ]
            refine wpAnyH_take (i := 10) (oi := { dst := some 56, op := Op.load 29 (Operand.tmp 55), type := 29, pos := "l8_patch.go:88", after := #[{ on := 9, ground := Ground.data }], guard := none }) (v := ?_) rfl (by kernel_rfl) (by kernel_rfl) (by kernel_rfl) (fun _ _ _ h => h) (Or.inl ⟨by rfl, ?_⟩) (by assumption) ?_
            rotate_left 1
            · (intro w hSw; (try dsimp only at hSw); go_simp)
              all_goals (try with_reducible rfl)
            try simp only [Act.put, List.setIfInBounds_toArray, List.set_cons_zero, List.set_cons_succ]
            refine wpAnyH_take (i := 14) (oi := { dst := some 60, op := Op.fieldAddr 29 (Operand.tmp 3) 3, type := 0, pos := "l8_patch.go:88", after := #[], guard := none }) (v := ?_) rfl (by kernel_rfl) (by kernel_rfl) (by kernel_rfl) (fun _ _ _ h => h) (Or.inl ⟨by rfl, ?_⟩) (by assumption) ?_
            rotate_left 1
            · (intro w hSw; (try dsimp only at hSw); go_simp)
              all_goals (try with_reducible rfl)
            try simp only [Act.put, List.setIfInBounds_toArray, List.set_cons_zero, List.set_cons_succ]
            refine wpAnyH_take (i := 15) (oi := { dst := some 61, op := Op.load 27 (Operand.tmp 60), type := 27, pos := "l8_patch.go:88", after := #[{ on := 14, ground := Ground.data }], guard := none }) (v := ?_) rfl (by kernel_rfl) (by kernel_rfl) (by kernel_rfl) (fun _ _ _ h => h) (Or.inl ⟨by rfl, ?_⟩) (by assumption) ?_
            rotate_left 1
            · (intro w hSw; (try dsimp only at hSw); go_simp)
              all_goals (try with_reducible rfl)
            try simp only [Act.put, List.setIfInBounds_toArray, List.set_cons_zero, List.set_cons_succ]
            refine wpAnyH_take (i := 16) (oi := { dst := some 62, op := Op.move (Operand.tmp 5), type := 3, pos := "l8_patch.go:88", after := #[], guard := none }) (v := ?_) rfl (by kernel_rfl) (by kernel_rfl) (by kernel_rfl) (fun _ _ _ h => h) (Or.inl ⟨by rfl, ?_⟩) (by assumption) ?_
            rotate_left 1
            · (intro w hSw; (try dsimp only at hSw); go_simp)
              all_goals (try with_reducible rfl)
            try simp only [Act.put, List.setIfInBounds_toArray, List.set_cons_zero, List.set_cons_succ]
            refine wpAnyH_take (i := 17) (oi := { dst := some 63, op := Op.slice 27 (Operand.tmp 61) (some (Operand.tmp 62)) none none, type := 27, pos := "l8_patch.go:88", after := #[{ on := 15, ground := Ground.data }, { on := 16, ground := Ground.data }], guard := none }) (v := ?_) rfl (by kernel_rfl) (by kernel_rfl) (by kernel_rfl) (fun _ _ _ h => h) (Or.inl ⟨by rfl, ?_⟩) (by assumption) ?_
            rotate_left 1
            · (intro w hSw; (try dsimp only at hSw); go_simp)
              all_goals (try with_reducible rfl)
            try simp only [Act.put, List.setIfInBounds_toArray, List.set_cons_zero, List.set_cons_succ]
            refine wpAnyH_ready (rs := [0]) (by kernel_rfl) (by simp) ?_
            refine AllReadyH.cons (o := { dst := some 46, op := Op.buildSlice 27 0 #[], type := 27, pos := "l8_patch.go:88", after := #[], guard := none }) rfl (fun K hK => ?_) ?_
            · go_simp
              refine hK.out _ _ ?_ (fun hHeld1 => ?_)
              · try dsimp only
                (refine ⟨?_, ?_, ?_, ?_, ?_, ?_, ?_⟩ <;> (repeat (first | assumption | refine cell_drS ?_ | refine cell_alS ?_ _)))
              clear hK K hHeld
              try simp only [Act.put, List.setIfInBounds_toArray, List.set_cons_zero, List.set_cons_succ]
              refine wpAnyH_ready (rs := [5]) (by kernel_rfl) (by simp) ?_
              refine AllReadyH.cons (o := { dst := some 51, op := Op.call { callee := Callee.builtin Builtin.append, args := #[Operand.tmp 46, Operand.tmp 50], argTypes := #[27, 27] }, type := 27, pos := "l8_patch.go:88", after := #[{ on := 0, ground := Ground.data }, { on := 4, ground := Ground.data }], guard := none }) rfl (fun K hK => ?_) ?_
              · (refine step_append_nil (by rfl) _ _ _ (by rfl) W0.heap.size 29 i0 5 Try.underlying27 hi0 (.slice (some ⟨W0.heap.size, 0, none⟩) 0 0) 0 [] (by rfl) (HMADE.out _ rfl) (by rfl) ?_)
                refine hK.out _ _ ?_ (fun hHeld2 => ?_)
                · try dsimp only
                  (refine ⟨?_, ?_, ?_, ?_, ?_, ?_, ?_⟩ <;> (repeat (first | assumption | refine cell_drS ?_ | refine cell_alS ?_ _)))
                clear hK K hHeld1
                try simp only [Act.put, List.setIfInBounds_toArray, List.set_cons_zero, List.set_cons_succ]
                refine wpAnyH_ready (rs := [11]) (by kernel_rfl) (by simp) ?_
                refine AllReadyH.cons (o := { dst := some 57, op := Op.call { callee := Callee.value (Operand.func 32), args := #[Operand.tmp 56], argTypes := #[29] }, type := 29, pos := "l8_patch.go:88", after := #[{ on := 10, ground := Ground.data }, { on := 5, ground := Ground.chain }], guard := none }) rfl (fun K hK => ?_) ?_
                · go_simp
                  (go_at_call 32; refine (HCALL.out _ (HKW.out.trans (((Keeps.refl 0 W0).alloc (.cells #[] 29)).drew))).mono ?_; rintro e w3 ⟨p1, n1, p1', n1', rfl, hK, hb3⟩; have HB3 : Hid (Below W0.heap.size W0 w3) := HAL.out.drew.trans (hb3.mono HAL.out.size); have HX3 : Hid (VlK w3 (W0.alloc (.cells #[] 29)).heap.size w3.heap.size k si [.int .i64 ti.kind, .int .i64 ti.num, .string ti.text, .slice p1 si.list.length n1, .slice p1' si.names.length n1']) := hK; have HS3 : Hid ((W0.alloc (.cells #[] 29)).heap.size ≤ w3.heap.size) := hb3.size; have HW3 : Hid (w3.ownsRow W0.heap.size 29 5 (.slice (some ⟨W0.heap.size, 0, none⟩) 0 0) 0 []) := row_below (HMADE.out (W0.alloc (.cells #[] 29)).drew rfl) hb3; obtain ⟨l0, l1, l2, l3, l4, l5, l6⟩ := HHELD.out w3 HB3.out; clear hK hb3; dsimp only)
                  refine hK.out _ _ ?_ (fun hHeld3 => ?_)
                  · try dsimp only
                    (refine ⟨?_, ?_, ?_, ?_, ?_, ?_, ?_⟩ <;> (repeat (first | assumption | refine cell_drS ?_ | refine cell_alS ?_ _)))
                  clear hK K hHeld2
                  try simp only [Act.put, List.setIfInBounds_toArray, List.set_cons_zero, List.set_cons_succ]
                  refine wpAnyH_ready (rs := [12]) (by kernel_rfl) (by simp) ?_
                  refine AllReadyH.cons (o := { dst := some 58, op := Op.buildSlice 27 1 #[(0, Operand.tmp 57)], type := 27, pos := "l8_patch.go:88", after := #[{ on := 11, ground := Ground.data }], guard := none }) rfl (fun K hK => ?_) ?_
                  · go_simp
                    refine hK.out _ _ ?_ (fun hHeld4 => ?_)
                    · try dsimp only
                      (refine ⟨?_, ?_, ?_, ?_, ?_, ?_, ?_⟩ <;> (repeat (first | assumption | refine cell_drS ?_ | refine cell_alS ?_ _)))
                    clear hK K hHeld3
                    try simp only [Act.put, List.setIfInBounds_toArray, List.set_cons_zero, List.set_cons_succ]
                    refine wpAnyH_ready (rs := [13]) (by kernel_rfl) (by simp) ?_
                    refine AllReadyH.cons (o := { dst := some 59, op := Op.call { callee := Callee.builtin Builtin.append, args := #[Operand.tmp 51, Operand.tmp 58], argTypes := #[27, 27] }, type := 27, pos := "l8_patch.go:88", after := #[{ on := 5, ground := Ground.data }, { on := 12, ground := Ground.data }, { on := 11, ground := Ground.chain }], guard := none }) rfl (fun K hK => ?_) ?_
                    · (refine step_append_some (by rfl) _ _ _ (by rfl) W0.heap.size 29 i0 _ 5 80 Try.underlying27 hi0 hz0 hz1 hz2 rfl (by omega) (.slice (some ⟨W0.heap.size, 0, none⟩) 0 0) 0 [] (by rfl) (World.ownsRow.alloc HW3.out _) ⟨w3.heap.size, 0, none⟩ 1 1 [.int .i64 ti.kind, .int .i64 ti.num, .string ti.text, .slice p1 si.list.length n1, .slice p1' si.names.length n1'] (by rfl) (by rfl) (World.news_of_block (cs := #[.int .i64 ti.kind, .int .i64 ti.num, .string ti.text, .slice p1 si.list.length n1, .slice p1' si.names.length n1']) (t := 29) (fr := (0, 0)) (heap_alloc_newS w3 _)) (by simp [Value.oneCell']) (by simp) (by decide) (by decide) (by have := HB3.out.size; simp <;> omega) (w3.heap.size + 1) (by simp) ?_; intro g2 cap2 w4 hown4 hgrow4 hat4 hlt4; have HB4 : Hid (Below W0.heap.size W0 w4) := below_grownS (o := .cells #[.int .i64 ti.kind, .int .i64 ti.num, .string ti.text, .slice p1 si.list.length n1, .slice p1' si.names.length n1'] 29) HB3.out (Nat.le_refl _) ⟨hgrow4.os, hgrow4.tape, hgrow4.output, hgrow4.size, hgrow4.block⟩ (fun q hq => by injection hq with hq; rw [← hq]; exact Nat.le_refl _); have HX4 : Hid (VlK w4 (W0.heap.size + 1) w3.heap.size k si [.int .i64 ti.kind, .int .i64 ti.num, .string ti.text, .slice p1 si.list.length n1, .slice p1' si.names.length n1']) := VlK.same (by have h := HX3.out; first | exact h | (simp at h; exact h) | (rw [HSZ1.out] at h; exact h)) (fun q h1 h2 => (hgrow4.block q (by simp <;> omega) (fun he => by have he2 : q = W0.heap.size := Option.some.inj he; omega)).trans (Below.heap_alloc _ _ _ h2)); have HS4 : Hid (w3.heap.size ≤ w4.heap.size) := (by have h : (w3.alloc (.cells #[.int .i64 ti.kind, .int .i64 ti.num, .string ti.text, .slice p1 si.list.length n1, .slice p1' si.names.length n1'] 29)).heap.size ≤ w4.heap.size := hgrow4.size; have h2 : (w3.alloc (.cells #[.int .i64 ti.kind, .int .i64 ti.num, .string ti.text, .slice p1 si.list.length n1, .slice p1' si.names.length n1'] 29)).heap.size = w3.heap.size + 1 := World.heap_size_allocS _ _; show _ ≤ _; omega); have HW4 : Hid (w4.ownsRow W0.heap.size 29 5 (.slice (some ⟨g2, 0, none⟩) 1 cap2) 1 [.int .i64 ti.kind, .int .i64 ti.num, .string ti.text, .slice p1 si.list.length n1, .slice p1' si.names.length n1']) := (by rw [Nat.zero_add, List.nil_append] at hown4; exact hown4); obtain ⟨m0, m1, m2, m3, m4, m5, m6⟩ := HHELD.out w4 HB4.out; obtain ⟨hfz, hszz⟩ := HFR.out w4 HB4.out; clear hown4 hgrow4 hat4)
                      refine hK.out _ _ ?_ (fun hHeld5 => ?_)
                      · try dsimp only
                        (refine ⟨?_, ?_, ?_, ?_, ?_, ?_, ?_⟩ <;> (repeat (first | assumption | refine cell_drS ?_ | refine cell_alS ?_ _)))
                      clear hK K hHeld4
                      try simp only [Act.put, List.setIfInBounds_toArray, List.set_cons_zero, List.set_cons_succ]
                      refine wpAnyH_ready (rs := [18]) (by kernel_rfl) (by simp) ?_
                      refine AllReadyH.cons (o := { dst := some 64, op := Op.call { callee := Callee.builtin Builtin.append, args := #[Operand.tmp 59, Operand.tmp 63], argTypes := #[27, 27] }, type := 27, pos := "l8_patch.go:88", after := #[{ on := 13, ground := Ground.data }, { on := 17, ground := Ground.data }, { on := 13, ground := Ground.chain }], guard := none }) rfl (fun K hK => ?_) ?_
                      · (refine step_append_nil (by rfl) _ _ _ (by rfl) W0.heap.size 29 i0 5 Try.underlying27 hi0 (.slice (some ⟨g2, 0, none⟩) 1 cap2) 1 [.int .i64 ti.kind, .int .i64 ti.num, .string ti.text, .slice p1 si.list.length n1, .slice p1' si.names.length n1'] (by rfl) HW4.out (by rfl) ?_)
                        refine hK.out _ _ ?_ (fun hHeld6 => ?_)
                        · try dsimp only
                          (refine ⟨?_, ?_, ?_, ?_, ?_, ?_, ?_⟩ <;> (repeat (first | assumption | refine cell_drS ?_ | refine cell_alS ?_ _)))
                        clear hK K hHeld5
                        try simp only [Act.put, List.setIfInBounds_toArray, List.set_cons_zero, List.set_cons_succ]
                        refine wpAnyH_take (i := 19) (oi := { dst := some 65, op := Op.fieldAddr 29 (Operand.tmp 3) 3, type := 0, pos := "l8_patch.go:88", after := #[{ on := 0, ground := Ground.phase }, { on := 1, ground := Ground.phase }, { on := 2, ground := Ground.phase }, { on := 3, ground := Ground.phase }, { on := 4, ground := Ground.phase }, { on := 5, ground := Ground.phase }, { on := 6, ground := Ground.phase }, { on := 7, ground := Ground.phase }, { on := 8, ground := Ground.phase }, { on := 9, ground := Ground.phase }, { on := 10, ground := Ground.phase }, { on := 11, ground := Ground.phase }, { on := 12, ground := Ground.phase }, { on := 13, ground := Ground.phase }, { on := 14, ground := Ground.phase }, { on := 15, ground := Ground.phase }, { on := 16, ground := Ground.phase }, { on := 17, ground := Ground.phase }, { on := 18, ground := Ground.phase }], guard := none }) (v := ?_) rfl (by kernel_rfl) (by kernel_rfl) (by kernel_rfl) (fun _ _ _ h => h) (Or.inl ⟨by rfl, ?_⟩) (by assumption) ?_
                        rotate_left 1
                        · (intro w hSw; (try dsimp only at hSw); go_simp)
                          all_goals (try with_reducible rfl)
                        try simp only [Act.put, List.setIfInBounds_toArray, List.set_cons_zero, List.set_cons_succ]
                        refine wpAnyH_done (by kernel_rfl) ?_ _

                        intro KK hKK
                        go_simp
                        refine hKK _ _ ?_
                        clear hKK KK
                        go_wp2_with fail
                        go_meet
                        case rel =>
                          have h1 := out_met (si := si) (v' := .slice (some ⟨g2, 0, none⟩) (0 + 1) cap2) (tot := 1) (j := 0) (xs := xs) (lo := W0.heap.size + 1) (hi := w3.heap.size) HOL0.out HON0.out HP0.out HBW0.out HSZ0.out (Nat.zero_le _) HB4.out rfl HX4.out (Nat.le_succ _) HS4.out (by
                            have h := HW4.out
                            rw [HXN.out]
                            simpa using h) (by rw [HLI.out]) (wx := w4.setCell ⟨w.heap.size + 1 + 1, 3, none⟩ (.slice (some ⟨g2, 0, none⟩) 1 cap2)) rfl ⟨rfl, rfl, rfl⟩
                          exact ⟨g2, cap2, _, h1.1, h1.2.1, h1.2.2.1, h1.2.2.2.1, h1.2.2.2.2⟩
                      exact AllReadyH.nil
                    exact AllReadyH.nil
                  exact AllReadyH.nil
                exact AllReadyH.nil
              exact AllReadyH.nil
            exact AllReadyH.nil
          · obtain ⟨g, hg⟩ : ∃ g, oa = some ⟨g, 0, none⟩ := HOL0.out.some_of (by rw [HLI.out]; omega)
            subst hg
            have hioc2 : i ≤ oc := HOL0.out.cap_of HLI.out
            have hioc : (i : Int) ≤ (oc : Int) := by omega
            have hjoc : (j : Int) ≤ (oc : Int) := by omega
            have hji : (j : Int) ≤ (i : Int) := by omega
            have HMADE : Hid (∀ W : World, W.heap = (W0.alloc (.cells #[] 29)).heap → W.ownsRow W0.heap.size 29 5 (.slice (some ⟨W0.heap.size, 0, none⟩) 0 0) 0 []) := fun W hW => by
              have h := World.ownsRow_made (base := W0.heap.size) (e := 29) (size := 5) W0 #[] 0 (Nat.le_refl _) (Nat.zero_le _) rfl
              exact row_same h (fun g hg => by rw [hW])
            have HSZ1 : Hid ((W0.alloc (.cells #[] 29)).heap.size = W0.heap.size + 1) := World.heap_size_allocS _ _
            have HAL : Hid (Below W0.heap.size W0 (W0.alloc (.cells #[] 29))) := (Below.refl _ _).alloc (Nat.le_refl _) _
            have r3 : W0.cell? ⟨w.heap.size + 1 + 1, 3, none⟩ = some (.slice (some ⟨g, 0, none⟩) i oc) := by rw [HP0.out.2.2.cell]; rfl
            have HHELD : Hid (∀ w', Below W0.heap.size W0 w' → w'.cell? ⟨w.heap.size + 1 + 1, 3, none⟩ = some (.slice (some ⟨g, 0, none⟩) i oc) ∧ w'.cell? ⟨w.heap.size, 3, none⟩ = some (.slice (some ⟨b, off, none⟩) t.list.length c) ∧ w'.cell? ⟨b, off + i * 5, none⟩ = some (.int .i64 ti.kind) ∧ w'.cell? ⟨b, off + i * 5 + 1, none⟩ = some (.int .i64 ti.num) ∧ w'.cell? ⟨b, off + i * 5 + 2, none⟩ = some (.string ti.text) ∧ w'.cell? ⟨b, off + i * 5 + 3, none⟩ = some (.slice p ti.list.length n) ∧ w'.cell? ⟨b, off + i * 5 + 4, none⟩ = some (.slice p' ti.names.length n')) := fun w' hb => ⟨cell_on hb r3, cell_on hb q3, cell_on hb d0, cell_on hb d1, cell_on hb d2, cell_on hb d3, cell_on hb d4⟩
            have HFR : Hid (∀ w', Below W0.heap.size W0 w' → w'.frozen? ⟨w.heap.size + 1 + 1, 3, none⟩ = false ∧ w.heap.size + 1 + 1 < w'.heap.size) := fun w' hb => ⟨(hb.frozen (p := ⟨w.heap.size + 1 + 1, 3, none⟩) (cell_lt r3)).trans (HP0.out.2.2.frozen 3), Nat.lt_of_lt_of_le (cell_lt r3) hb.size⟩

            have HONE : Hid (∀ u ∈ xs, u.oneCell' = true) := HOL0.out.one
            have HXL : Hid (xs.length = i * 5) := by have h := HOL0.out.own.1; rw [HLI.out] at h; exact h
            have HLEN : Hid ((xs.take (j * 5)).length = j * 5 ∧ (xs.drop (j * 5)).length = (i - j) * 5) := ⟨by rw [List.length_take, HXL.out]; omega, by rw [List.length_drop, HXL.out]; omega⟩
            obtain ⟨jo, HJO, HJ2⟩ : ∃ jo : Nat, Hid (Value.slice (if oc = j then some (⟨g, 0, none⟩ : Addr) else some ⟨g, j * 5, none⟩) (i - j) (oc - j) = .slice (some ⟨g, jo, none⟩) (i - j) (oc - j)) ∧ Hid (j < i → jo = j * 5) := by
              by_cases h : oc = j
              · exact ⟨0, (by show _ = _; rw [if_pos h]), fun h2 => absurd h (by omega)⟩
              · exact ⟨j * 5, (by show _ = _; rw [if_neg h]), fun _ => rfl⟩
            have HNEWS : Hid (∀ W : World, (∀ q, q < W0.heap.size → W.heap[q]? = W0.heap[q]?) → (∀ q u, (xs.take (j * 5))[q]? = some u → W.cell? ((⟨g, 0, none⟩ : Addr).add q) = some u) ∧ ∀ q u, (xs.drop (j * 5))[q]? = some u → W.cell? ((⟨g, jo, none⟩ : Addr).add q) = some u) := fun W hW => by
              have hg := (HOL0.out.own.lt g rfl).2
              have h1 : ∀ q u, xs[q]? = some u → W.cell? ⟨g, q, none⟩ = some u := fun q u hq => by
                have h2 := World.ownsRow.cells HOL0.out.own rfl q u hq
                rw [Addr.add_mid, Nat.zero_add] at h2
                rw [World.cell?_of_block (a := ⟨g, q, none⟩) (hW g hg)]
                exact h2
              refine ⟨fun q u hq => ?_, fun q u hq => ?_⟩
              · rw [List.getElem?_take] at hq
                split at hq
                · rw [Addr.add_mid, Nat.zero_add]; exact h1 q u hq
                · cases hq
              · rw [List.getElem?_drop] at hq
                have h3 : j * 5 + q < xs.length := (List.getElem?_eq_some_iff.1 hq).1
                have h4 := HXL.out
                rw [HJ2.out (by omega), Addr.add_mid]
                exact h1 _ u hq
            refine wp_region_last 20 _ rfl (fun w' => w'.cell? ⟨w.heap.size + 1 + 1, 3, none⟩ = some (.slice (some ⟨g, 0, none⟩) i oc) ∧ w'.cell? ⟨w.heap.size, 3, none⟩ = some (.slice (some ⟨b, off, none⟩) t.list.length c) ∧ w'.cell? ⟨b, off + i * 5, none⟩ = some (.int .i64 ti.kind) ∧ w'.cell? ⟨b, off + i * 5 + 1, none⟩ = some (.int .i64 ti.num) ∧ w'.cell? ⟨b, off + i * 5 + 2, none⟩ = some (.string ti.text) ∧ w'.cell? ⟨b, off + i * 5 + 3, none⟩ = some (.slice p ti.list.length n) ∧ w'.cell? ⟨b, off + i * 5 + 4, none⟩ = some (.slice p' ti.names.length n')) (by kernel_rfl) rfl (by kernel_rfl) ?_ (fun hHeld => ?_)
            · (refine ⟨?_, ?_, ?_, ?_, ?_, ?_, ?_⟩ <;> (repeat (first | assumption | refine cell_drS ?_ | refine cell_alS ?_ _)))
            refine wpAnyH_take (i := 1) (oi := { dst := some 47, op := Op.fieldAddr 29 (Operand.tmp 3) 3, type := 0, pos := "l8_patch.go:88", after := #[], guard := none }) (v := ?_) rfl (by kernel_rfl) (by kernel_rfl) (by kernel_rfl) (fun _ _ _ h => h) (Or.inl ⟨by rfl, ?_⟩) (by assumption) ?_
            rotate_left 1
            · (intro w hSw; (try dsimp only at hSw); go_simp)
              all_goals (try with_reducible rfl)
            try simp only [Act.put, List.setIfInBounds_toArray, List.set_cons_zero, List.set_cons_succ]
            refine wpAnyH_take (i := 2) (oi := { dst := some 48, op := Op.load 27 (Operand.tmp 47), type := 27, pos := "l8_patch.go:88", after := #[{ on := 1, ground := Ground.data }], guard := none }) (v := ?_) rfl (by kernel_rfl) (by kernel_rfl) (by kernel_rfl) (fun _ _ _ h => h) (Or.inl ⟨by rfl, ?_⟩) (by assumption) ?_
            rotate_left 1
            · (intro w hSw; (try dsimp only at hSw); go_simp)
              all_goals (try with_reducible rfl)
            try simp only [Act.put, List.setIfInBounds_toArray, List.set_cons_zero, List.set_cons_succ]
            refine wpAnyH_take (i := 3) (oi := { dst := some 49, op := Op.move (Operand.tmp 5), type := 3, pos := "l8_patch.go:88", after := #[], guard := none }) (v := ?_) rfl (by kernel_rfl) (by kernel_rfl) (by kernel_rfl) (fun _ _ _ h => h) (Or.inl ⟨by rfl, ?_⟩) (by assumption) ?_
            rotate_left 1
            · (intro w hSw; (try dsimp only at hSw); go_simp)
              all_goals (try with_reducible rfl)
            try simp only [Act.put, List.setIfInBounds_toArray, List.set_cons_zero, List.set_cons_succ]
            refine wpAnyH_take (i := 4) (oi := { dst := some 50, op := Op.slice 27 (Operand.tmp 48) none (some (Operand.tmp 49)) none, type := 27, pos := "l8_patch.go:88", after := #[{ on := 2, ground := Ground.data }, { on := 3, ground := Ground.data }], guard := none }) (v := ?_) rfl (by kernel_rfl) (by kernel_rfl) (by kernel_rfl) (fun _ _ _ h => h) (Or.inl ⟨by rfl, ?_⟩) (by assumption) ?_
            rotate_left 1
            · (intro w hSw; (try dsimp only at hSw); go_simp)
              all_goals (try with_reducible rfl)
            try simp only [Act.put, List.setIfInBounds_toArray, List.set_cons_zero, List.set_cons_succ]
            refine wpAnyH_take (i := 6) (oi := { dst := some 52, op := Op.fieldAddr 29 (Operand.tmp 1) 3, type := 0, pos := "l8_patch.go:88", after := #[], guard := none }) (v := ?_) rfl (by kernel_rfl) (by kernel_rfl) (by kernel_rfl) (fun _ _ _ h => h) (Or.inl ⟨by rfl, ?_⟩) (by assumption) ?_
            rotate_left 1
            · (intro w hSw; (try dsimp only at hSw); go_simp)
              all_goals (try with_reducible rfl)
            try simp only [Act.put, List.setIfInBounds_toArray, List.set_cons_zero, List.set_cons_succ]
            refine wpAnyH_take (i := 7) (oi := { dst := some 53, op := Op.load 27 (Operand.tmp 52), type := 27, pos := "l8_patch.go:88", after := #[{ on := 6, ground := Ground.data }], guard := none }) (v := ?_) rfl (by kernel_rfl) (by kernel_rfl) (by kernel_rfl) (fun _ _ _ h => h) (Or.inl ⟨by rfl, ?_⟩) (by assumption) ?_
            rotate_left 1
            · (intro w hSw; (try dsimp only at hSw); go_simp)
              all_goals (try with_reducible rfl)
            try simp only [Act.put, List.setIfInBounds_toArray, List.set_cons_zero, List.set_cons_succ]
            refine wpAnyH_take (i := 8) (oi := { dst := some 54, op := Op.move (Operand.tmp 4), type := 3, pos := "l8_patch.go:88", after := #[], guard := none }) (v := ?_) rfl (by kernel_rfl) (by kernel_rfl) (by kernel_rfl) (fun _ _ _ h => h) (Or.inl ⟨by rfl, ?_⟩) (by assumption) ?_
            rotate_left 1
            · (intro w hSw; (try dsimp only at hSw); go_simp)
              all_goals (try with_reducible rfl)
            try simp only [Act.put, List.setIfInBounds_toArray, List.set_cons_zero, List.set_cons_succ]
            refine wpAnyH_take (i := 9) (oi := { dst := some 55, op := Op.indexAddr 27 (Operand.tmp 53) (Operand.tmp 54), type := 0, pos := "l8_patch.go:88", after := #[{ on := 7, ground := Ground.data }, { on := 8, ground := Ground.data }], guard := none }) (v := ?_) rfl (by kernel_rfl) (by kernel_rfl) (by kernel_rfl) (fun _ _ _ h => h) (Or.inl ⟨by rfl, ?_⟩) (by assumption) ?_
            rotate_left 1
            · (intro w hSw; (try dsimp only at hSw); go_simp)
              all_goals (try with_reducible rfl)
            try simp only [Act.put, List.setIfInBounds_toArray, List.set_cons_zero, List.set_cons_succ]
            refine wpAnyH_take (i := 10) (oi := { dst := some 56, op := Op.load 29 (Operand.tmp 55), type := 29, pos := "l8_patch.go:88", after := #[{ on := 9, ground := Ground.data }], guard := none }) (v := ?_) rfl (by kernel_rfl) (by kernel_rfl) (by kernel_rfl) (fun _ _ _ h => h) (Or.inl ⟨by rfl, ?_⟩) (by assumption) ?_
            rotate_left 1
            · (intro w hSw; (try dsimp only at hSw); go_simp)
              all_goals (try with_reducible rfl)
            try simp only [Act.put, List.setIfInBounds_toArray, List.set_cons_zero, List.set_cons_succ]
            refine wpAnyH_take (i := 14) (oi := { dst := some 60, op := Op.fieldAddr 29 (Operand.tmp 3) 3, type := 0, pos := "l8_patch.go:88", after := #[], guard := none }) (v := ?_) rfl (by kernel_rfl) (by kernel_rfl) (by kernel_rfl) (fun _ _ _ h => h) (Or.inl ⟨by rfl, ?_⟩) (by assumption) ?_
            rotate_left 1
            · (intro w hSw; (try dsimp only at hSw); go_simp)
              all_goals (try with_reducible rfl)
            try simp only [Act.put, List.setIfInBounds_toArray, List.set_cons_zero, List.set_cons_succ]
            refine wpAnyH_take (i := 15) (oi := { dst := some 61, op := Op.load 27 (Operand.tmp 60), type := 27, pos := "l8_patch.go:88", after := #[{ on := 14, ground := Ground.data }], guard := none }) (v := ?_) rfl (by kernel_rfl) (by kernel_rfl) (by kernel_rfl) (fun _ _ _ h => h) (Or.inl ⟨by rfl, ?_⟩) (by assumption) ?_
            rotate_left 1
            · (intro w hSw; (try dsimp only at hSw); go_simp)
              all_goals (try with_reducible rfl)
            try simp only [Act.put, List.setIfInBounds_toArray, List.set_cons_zero, List.set_cons_succ]
            refine wpAnyH_take (i := 16) (oi := { dst := some 62, op := Op.move (Operand.tmp 5), type := 3, pos := "l8_patch.go:88", after := #[], guard := none }) (v := ?_) rfl (by kernel_rfl) (by kernel_rfl) (by kernel_rfl) (fun _ _ _ h => h) (Or.inl ⟨by rfl, ?_⟩) (by assumption) ?_
            rotate_left 1
            · (intro w hSw; (try dsimp only at hSw); go_simp)
              all_goals (try with_reducible rfl)
            try simp only [Act.put, List.setIfInBounds_toArray, List.set_cons_zero, List.set_cons_succ]
            refine wpAnyH_take (i := 17) (oi := { dst := some 63, op := Op.slice 27 (Operand.tmp 61) (some (Operand.tmp 62)) none none, type := 27, pos := "l8_patch.go:88", after := #[{ on := 15, ground := Ground.data }, { on := 16, ground := Ground.data }], guard := none }) (v := ?_) rfl (by kernel_rfl) (by kernel_rfl) (by kernel_rfl) (fun _ _ _ h => h) (Or.inl ⟨by rfl, ?_⟩) (by assumption) ?_
            rotate_left 1
            · (intro w hSw; (try dsimp only at hSw); go_simp)
              all_goals (try with_reducible rfl)
            try simp only [Act.put, List.setIfInBounds_toArray, List.set_cons_zero, List.set_cons_succ]
            refine wpAnyH_ready (rs := [0]) (by kernel_rfl) (by simp) ?_
            refine AllReadyH.cons (o := { dst := some 46, op := Op.buildSlice 27 0 #[], type := 27, pos := "l8_patch.go:88", after := #[], guard := none }) rfl (fun K hK => ?_) ?_
            · go_simp
              refine hK.out _ _ ?_ (fun hHeld1 => ?_)
              · try dsimp only
                (refine ⟨?_, ?_, ?_, ?_, ?_, ?_, ?_⟩ <;> (repeat (first | assumption | refine cell_drS ?_ | refine cell_alS ?_ _)))
              clear hK K hHeld
              try simp only [Act.put, List.setIfInBounds_toArray, List.set_cons_zero, List.set_cons_succ]
              refine wpAnyH_ready (rs := [5]) (by kernel_rfl) (by simp) ?_
              refine AllReadyH.cons (o := { dst := some 51, op := Op.call { callee := Callee.builtin Builtin.append, args := #[Operand.tmp 46, Operand.tmp 50], argTypes := #[27, 27] }, type := 27, pos := "l8_patch.go:88", after := #[{ on := 0, ground := Ground.data }, { on := 4, ground := Ground.data }], guard := none }) rfl (fun K hK => ?_) ?_
              · (refine step_append_some (by rfl) _ _ _ (by rfl) W0.heap.size 29 i0 _ 5 80 Try.underlying27 hi0 hz0 hz1 hz2 rfl (by omega) (.slice (some ⟨W0.heap.size, 0, none⟩) 0 0) 0 [] (by rfl) (HMADE.out _ rfl) ⟨g, 0, none⟩ j oc (xs.take (j * 5)) (by rfl) HLEN.out.1 (HNEWS.out _ (fun q hq => Below.heap_alloc _ _ _ hq)).1 (fun u hu => HONE.out u (List.mem_of_mem_take hu)) (by simp) (by unfold maxLen; have := HW.out; omega) (by have := HW.out; omega) (by simp) (W0.heap.size + 1) (by simp) ?_; intro g1 cap1 w2 hown2 hgrow2 hat2 hlt2; have HB2 : Hid (Below W0.heap.size W0 w2) := below_grownS (o := .cells #[] 29) (Below.refl _ _) (Nat.le_refl _) ⟨hgrow2.os, hgrow2.tape, hgrow2.output, hgrow2.size, hgrow2.block⟩ (fun q hq => by injection hq with hq; rw [← hq]; exact Nat.le_refl _); have HW2 : Hid (w2.ownsRow W0.heap.size 29 5 (.slice (some ⟨g1, 0, none⟩) j cap1) j (xs.take (j * 5))) := (by rw [Nat.zero_add, List.nil_append] at hown2; exact hown2); obtain ⟨k0, k1, k2, k3, k4, k5, k6⟩ := HHELD.out w2 HB2.out; clear hown2 hgrow2 hat2)
                refine hK.out _ _ ?_ (fun hHeld2 => ?_)
                · try dsimp only
                  (refine ⟨?_, ?_, ?_, ?_, ?_, ?_, ?_⟩ <;> (repeat (first | assumption | refine cell_drS ?_ | refine cell_alS ?_ _)))
                clear hK K hHeld1
                try simp only [Act.put, List.setIfInBounds_toArray, List.set_cons_zero, List.set_cons_succ]
                refine wpAnyH_ready (rs := [11]) (by kernel_rfl) (by simp) ?_
                refine AllReadyH.cons (o := { dst := some 57, op := Op.call { callee := Callee.value (Operand.func 32), args := #[Operand.tmp 56], argTypes := #[29] }, type := 29, pos := "l8_patch.go:88", after := #[{ on := 10, ground := Ground.data }, { on := 5, ground := Ground.chain }], guard := none }) rfl (fun K hK => ?_) ?_
                · go_simp
                  (go_at_call 32; refine (HCALL.out w2 (HKW.out.trans (Keeps.of_below HB2.out (Nat.le_refl _) 0))).mono ?_; rintro e w3 ⟨p1, n1, p1', n1', rfl, hK, hb3⟩; have HB3 : Hid (Below W0.heap.size W0 w3) := HB2.out.trans (hb3.mono HB2.out.size); have HX3 : Hid (VlK w3 w2.heap.size w3.heap.size k si [.int .i64 ti.kind, .int .i64 ti.num, .string ti.text, .slice p1 si.list.length n1, .slice p1' si.names.length n1']) := hK; have HS3 : Hid (W0.heap.size ≤ w2.heap.size ∧ w2.heap.size ≤ w3.heap.size ∧ g1 < w2.heap.size) := ⟨HB2.out.size, hb3.size, hlt2⟩; have HW3 : Hid (w3.ownsRow W0.heap.size 29 5 (.slice (some ⟨g1, 0, none⟩) j cap1) j (xs.take (j * 5))) := row_below HW2.out hb3; obtain ⟨l0, l1, l2, l3, l4, l5, l6⟩ := HHELD.out w3 HB3.out; clear hK hb3; dsimp only)
                  refine hK.out _ _ ?_ (fun hHeld3 => ?_)
                  · try dsimp only
                    (refine ⟨?_, ?_, ?_, ?_, ?_, ?_, ?_⟩ <;> (repeat (first | assumption | refine cell_drS ?_ | refine cell_alS ?_ _)))
                  clear hK K hHeld2
                  try simp only [Act.put, List.setIfInBounds_toArray, List.set_cons_zero, List.set_cons_succ]
                  refine wpAnyH_ready (rs := [12]) (by kernel_rfl) (by simp) ?_
                  refine AllReadyH.cons (o := { dst := some 58, op := Op.buildSlice 27 1 #[(0, Operand.tmp 57)], type := 27, pos := "l8_patch.go:88", after := #[{ on := 11, ground := Ground.data }], guard := none }) rfl (fun K hK => ?_) ?_
                  · go_simp
                    refine hK.out _ _ ?_ (fun hHeld4 => ?_)
                    · try dsimp only
                      (refine ⟨?_, ?_, ?_, ?_, ?_, ?_, ?_⟩ <;> (repeat (first | assumption | refine cell_drS ?_ | refine cell_alS ?_ _)))
                    clear hK K hHeld3
                    try simp only [Act.put, List.setIfInBounds_toArray, List.set_cons_zero, List.set_cons_succ]
                    refine wpAnyH_ready (rs := [13]) (by kernel_rfl) (by simp) ?_
                    refine AllReadyH.cons (o := { dst := some 59, op := Op.call { callee := Callee.builtin Builtin.append, args := #[Operand.tmp 51, Operand.tmp 58], argTypes := #[27, 27] }, type := 27, pos := "l8_patch.go:88", after := #[{ on := 5, ground := Ground.data }, { on := 12, ground := Ground.data }, { on := 11, ground := Ground.chain }], guard := none }) rfl (fun K hK => ?_) ?_
                    · (refine step_append_some (by rfl) _ _ _ (by rfl) W0.heap.size 29 i0 _ 5 80 Try.underlying27 hi0 hz0 hz1 hz2 rfl (by omega) (.slice (some ⟨g1, 0, none⟩) j cap1) j (xs.take (j * 5)) (by rfl) (World.ownsRow.alloc HW3.out _) ⟨w3.heap.size, 0, none⟩ 1 1 [.int .i64 ti.kind, .int .i64 ti.num, .string ti.text, .slice p1 si.list.length n1, .slice p1' si.names.length n1'] (by rfl) (by rfl) (World.news_of_block (cs := #[.int .i64 ti.kind, .int .i64 ti.num, .string ti.text, .slice p1 si.list.length n1, .slice p1' si.names.length n1']) (t := 29) (fr := (0, 0)) (heap_alloc_newS w3 _)) (by simp [Value.oneCell']) (by simp) (by unfold maxLen; have := HW.out; omega) (by have := HW.out; omega) (by have := HB3.out.size; simp <;> omega) (w3.heap.size + 1) (by simp) ?_; intro g2 cap2 w4 hown4 hgrow4 hat4 hlt4; have HB4 : Hid (Below W0.heap.size W0 w4) := below_grownS (o := .cells #[.int .i64 ti.kind, .int .i64 ti.num, .string ti.text, .slice p1 si.list.length n1, .slice p1' si.names.length n1'] 29) HB3.out (Nat.le_refl _) ⟨hgrow4.os, hgrow4.tape, hgrow4.output, hgrow4.size, hgrow4.block⟩ (fun q hq => (World.ownsRow.lt HW3.out q hq).1); have HX4 : Hid (VlK w4 w2.heap.size w3.heap.size k si [.int .i64 ti.kind, .int .i64 ti.num, .string ti.text, .slice p1 si.list.length n1, .slice p1' si.names.length n1']) := HX3.out.same (fun q h1 h2 => (hgrow4.block q (by simp <;> omega) (fun he => by have he2 : q = g1 := Option.some.inj he; have := HS3.out.2.2; omega)).trans (Below.heap_alloc _ _ _ h2)); have HG4 : Hid (g2 = g1 ∨ g2 = w3.heap.size + 1) := hat4.imp (fun h => (Option.some.inj h).symm) id; have HS4 : Hid (w3.heap.size + 1 ≤ w4.heap.size) := (by have h : (w3.alloc (.cells #[.int .i64 ti.kind, .int .i64 ti.num, .string ti.text, .slice p1 si.list.length n1, .slice p1' si.names.length n1'] 29)).heap.size ≤ w4.heap.size := hgrow4.size; have h2 : (w3.alloc (.cells #[.int .i64 ti.kind, .int .i64 ti.num, .string ti.text, .slice p1 si.list.length n1, .slice p1' si.names.length n1'] 29)).heap.size = w3.heap.size + 1 := World.heap_size_allocS _ _; show _ ≤ _; omega); have HW4 : Hid (w4.ownsRow W0.heap.size 29 5 (.slice (some ⟨g2, 0, none⟩) (j + 1) cap2) (j + 1) (xs.take (j * 5) ++ [.int .i64 ti.kind, .int .i64 ti.num, .string ti.text, .slice p1 si.list.length n1, .slice p1' si.names.length n1'])) := hown4; obtain ⟨m0, m1, m2, m3, m4, m5, m6⟩ := HHELD.out w4 HB4.out; clear hown4 hgrow4 hat4)
                      refine hK.out _ _ ?_ (fun hHeld5 => ?_)
                      · try dsimp only
                        (refine ⟨?_, ?_, ?_, ?_, ?_, ?_, ?_⟩ <;> (repeat (first | assumption | refine cell_drS ?_ | refine cell_alS ?_ _)))
                      clear hK K hHeld4
                      try simp only [Act.put, List.setIfInBounds_toArray, List.set_cons_zero, List.set_cons_succ]
                      refine wpAnyH_ready (rs := [18]) (by kernel_rfl) (by simp) ?_
                      refine AllReadyH.cons (o := { dst := some 64, op := Op.call { callee := Callee.builtin Builtin.append, args := #[Operand.tmp 59, Operand.tmp 63], argTypes := #[27, 27] }, type := 27, pos := "l8_patch.go:88", after := #[{ on := 13, ground := Ground.data }, { on := 17, ground := Ground.data }, { on := 13, ground := Ground.chain }], guard := none }) rfl (fun K hK => ?_) ?_
                      · (refine step_append_some (by rfl) _ _ _ (by rfl) W0.heap.size 29 i0 _ 5 80 Try.underlying27 hi0 hz0 hz1 hz2 rfl (by omega) (.slice (some ⟨g2, 0, none⟩) (j + 1) cap2) (j + 1) (xs.take (j * 5) ++ [.int .i64 ti.kind, .int .i64 ti.num, .string ti.text, .slice p1 si.list.length n1, .slice p1' si.names.length n1']) (by rfl) HW4.out ⟨g, jo, none⟩ (i - j) (oc - j) (xs.drop (j * 5)) (by first | rfl | exact HJO.out) HLEN.out.2 (HNEWS.out _ HB4.out.block).2 (fun u hu => HONE.out u (List.mem_of_mem_drop hu)) (by simp) (by unfold maxLen; have := HW.out; omega) (by have := HW.out; omega) HB4.out.size w4.heap.size (by rfl) ?_; intro g3 cap3 w5 hown5 hgrow5 hat5 hlt5; have HB5 : Hid (Below W0.heap.size W0 w5) := below_grown0 HB4.out (Nat.le_refl _) ⟨hgrow5.os, hgrow5.tape, hgrow5.output, hgrow5.size, hgrow5.block⟩ (fun q hq => (World.ownsRow.lt HW4.out q hq).1); have HX5 : Hid (VlK w5 w2.heap.size w3.heap.size k si [.int .i64 ti.kind, .int .i64 ti.num, .string ti.text, .slice p1 si.list.length n1, .slice p1' si.names.length n1']) := HX4.out.same (fun q h1 h2 => hgrow5.block q (by have := HS4.out; show q < w4.heap.size; omega) (fun he => by have he2 : q = g2 := Option.some.inj he; have := HS3.out.2.2; have := HG4.out; omega)); have HS5 : Hid (w3.heap.size ≤ w5.heap.size) := Nat.le_trans (Nat.le_of_succ_le HS4.out) hgrow5.size; have HW5 : Hid (w5.ownsRow W0.heap.size 29 5 (.slice (some ⟨g3, 0, none⟩) (j + 1 + (i - j)) cap3) (j + 1 + (i - j)) (xs.take (j * 5) ++ [.int .i64 ti.kind, .int .i64 ti.num, .string ti.text, .slice p1 si.list.length n1, .slice p1' si.names.length n1'] ++ xs.drop (j * 5))) := hown5; obtain ⟨x0, x1, x2, x3, x4, x5, x6⟩ := HHELD.out w5 HB5.out; obtain ⟨hfz, hszz⟩ := HFR.out w5 HB5.out; clear hown5 hgrow5 hat5)
                        refine hK.out _ _ ?_ (fun hHeld6 => ?_)
                        · try dsimp only
                          (refine ⟨?_, ?_, ?_, ?_, ?_, ?_, ?_⟩ <;> (repeat (first | assumption | refine cell_drS ?_ | refine cell_alS ?_ _)))
                        clear hK K hHeld5
                        try simp only [Act.put, List.setIfInBounds_toArray, List.set_cons_zero, List.set_cons_succ]
                        refine wpAnyH_take (i := 19) (oi := { dst := some 65, op := Op.fieldAddr 29 (Operand.tmp 3) 3, type := 0, pos := "l8_patch.go:88", after := #[{ on := 0, ground := Ground.phase }, { on := 1, ground := Ground.phase }, { on := 2, ground := Ground.phase }, { on := 3, ground := Ground.phase }, { on := 4, ground := Ground.phase }, { on := 5, ground := Ground.phase }, { on := 6, ground := Ground.phase }, { on := 7, ground := Ground.phase }, { on := 8, ground := Ground.phase }, { on := 9, ground := Ground.phase }, { on := 10, ground := Ground.phase }, { on := 11, ground := Ground.phase }, { on := 12, ground := Ground.phase }, { on := 13, ground := Ground.phase }, { on := 14, ground := Ground.phase }, { on := 15, ground := Ground.phase }, { on := 16, ground := Ground.phase }, { on := 17, ground := Ground.phase }, { on := 18, ground := Ground.phase }], guard := none }) (v := ?_) rfl (by kernel_rfl) (by kernel_rfl) (by kernel_rfl) (fun _ _ _ h => h) (Or.inl ⟨by rfl, ?_⟩) (by assumption) ?_
                        rotate_left 1
                        · (intro w hSw; (try dsimp only at hSw); go_simp)
                          all_goals (try with_reducible rfl)
                        try simp only [Act.put, List.setIfInBounds_toArray, List.set_cons_zero, List.set_cons_succ]
                        refine wpAnyH_done (by kernel_rfl) ?_ _
                        rw [HJO.out]

                        intro KK hKK
                        go_simp
                        refine hKK _ _ ?_
                        clear hKK KK
                        go_wp2_with fail
                        go_meet
                        case rel =>
                          have hji2 : j + 1 + (i - j) = i + 1 := by omega
                          have h1 := out_met (si := si) (v' := .slice (some ⟨g3, 0, none⟩) (j + 1 + (i - j)) cap3) (tot := j + 1 + (i - j)) (j := j) (xs := xs) (lo := w2.heap.size) (hi := w3.heap.size) HOL0.out HON0.out HP0.out HBW0.out HSZ0.out (by rw [HLI.out]; exact hj) HB5.out rfl HX5.out HS3.out.1 HS5.out HW5.out (by rw [HLI.out]; exact hji2) (wx := w5.setCell ⟨w.heap.size + 1 + 1, 3, none⟩ (.slice (some ⟨g3, 0, none⟩) (j + 1 + (i - j)) cap3)) rfl ⟨rfl, rfl, rfl⟩
                          rw [hji2] at h1 ⊢
                          exact ⟨g3, cap3, _, h1.1, h1.2.1, h1.2.2.1, h1.2.2.2.1, h1.2.2.2.2⟩
                      exact AllReadyH.nil
                    exact AllReadyH.nil
                  exact AllReadyH.nil
                exact AllReadyH.nil
              exact AllReadyH.nil
            exact AllReadyH.nil
        case rest =>
          obtain ⟨g3, cap3, xs', HOL1, HON1, HP1, HBW1, HSZ1⟩ := hcut
          have w0 : wc.cell? ⟨w.heap.size, 0, none⟩ = some (.int .i64 t.kind) := by rw [HP1.out.1.cell]; rfl
          have HDS : Hid _ := done_step HD.out HLI.out hlt hj HJ5.out HME.out (fun h => (HWF.out.1 h).1)
          have HLI1 : Hid ((insAt L j si).length = i + 1) := by show _ = _; rw [insAt_len, HLI.out]
          have hlti2 : (i : Int) + 1 ≤ 140737488351232 := by have := HW.out; omega
          by_cases h5 : t.kind = 5
          · have e5 : (t.kind == 5) = true := by simp [h5]
            have w4 : wc.cell? ⟨w.heap.size, 4, none⟩ = some (.slice a' t.names.length c') := by rw [HP1.out.1.cell]; rfl
            have o4 : wc.cell? ⟨w.heap.size + 1 + 1, 4, none⟩ = some (.slice oa' N.length oc') := by rw [HP1.out.2.2.cell]; rfl
            have H5 : Hid (t.kind = 5) := h5
            clear h5
            go_upto_region 10 with fail
            clear HOL0 HON0 HP0 HBW0 HSZ0 HKW d0 d1 d2 d3 d4 q3 HCALL HNM
            obtain ⟨bn, on, hab2, _, hcn⟩ := HN.out (List.ne_nil_of_length_pos (by have := (HWF.out.1 H5.out).1; omega))
            subst hab2
            have hil : i < t.names.length := by have := (HWF.out.1 H5.out).1; omega
            have n1 : wc.cell? ⟨bn, on + i, none⟩ = some (.string t.names[i]) := (Keeps.of_below HBW1.out (Nat.le_refl _) 0).cell (p := ⟨bn, on + i, none⟩) (Nat.zero_le _) (hcn i hil).1
            have HNM1 : Hid (nameAt t i = t.names[i]) := nameAt_eq hil
            obtain ⟨nm, hnm⟩ : ∃ nm, t.names[i] = nm := ⟨_, rfl⟩
            rw [hnm] at n1 HNM1
            have hb3 : (i : Int) < (t.names.length : Int) := by omega
            have hb4 : (0 : Int) ≤ (i : Int) := by omega
            have HNl : Hid (N.length = i) := (HME.out H5.out).1
            have HDS2 : Hid (DoneS k t (i + 1) (insAt L j si) (insAt N j nm)) := by
              have h := HDS.out
              rw [if_pos H5.out, HTI.out.1, HTI.out.2, HNM1.out] at h
              exact h
            have HWN : Hid (i + 1 ≤ 140737488351232 ∧ (i + 1) * 16 ≤ 140737488351232) := by have := HW.out; exact ⟨by omega, by omega⟩
            clear hcn hnm HDS HNM1
            have HTWO : Hid (Below wc.heap.size wc ((wc.alloc (.cells #[] 9)).alloc (.cells #[.string nm] 9))) := ((Below.refl _ _).alloc (Nat.le_refl _) _).alloc (by simp) _
            have HREV : Hid (Below wc.heap.size wc ((wc.alloc (.cells #[.string nm] 9)).alloc (.cells #[] 9))) := ((Below.refl _ _).alloc (Nat.le_refl _) _).alloc (by simp) _
            have HONE0 : Hid (Below wc.heap.size wc (wc.alloc (.cells #[] 9))) := (Below.refl _ _).alloc (Nat.le_refl _) _
            rcases Nat.eq_zero_or_pos i with hz | hz
            · have e0 : ((i : Nat) : Int) = 0 := by omega
              rw [e0]
              obtain ⟨rfl, rfl, rfl, rfl⟩ := HNIL.out hz
              subst hz
              obtain rfl : j = 0 := by omega
              obtain rfl : N = [] := List.eq_nil_of_length_eq_zero HNl.out
              have hlt0 : (0 : Int) < (t.names.length : Int) := by omega
              clear e0 hlti hlti2
              rw [Nat.add_zero] at n1
              have r3 : wc.cell? ⟨w.heap.size + 1 + 1, 4, none⟩ = some (.slice none 0 0) := by rw [HP1.out.2.2.cell]; rfl
              have HHELD : Hid (∀ w', Below wc.heap.size wc w' → w'.cell? ⟨w.heap.size + 1 + 1, 4, none⟩ = some (.slice none 0 0) ∧ w'.cell? ⟨w.heap.size, 4, none⟩ = some (.slice (some ⟨bn, on, none⟩) t.names.length c') ∧ w'.cell? ⟨bn, on, none⟩ = some (.string nm)) := fun w' hb => ⟨cell_on hb r3, cell_on hb w4, cell_on hb n1⟩
              have HFR : Hid (∀ w', Below wc.heap.size wc w' → w'.frozen? ⟨w.heap.size + 1 + 1, 4, none⟩ = false ∧ w.heap.size + 1 + 1 < w'.heap.size) := fun w' hb => ⟨(hb.frozen (p := ⟨w.heap.size + 1 + 1, 4, none⟩) (cell_lt r3)).trans (HP1.out.2.2.frozen 4), Nat.lt_of_lt_of_le (cell_lt r3) hb.size⟩
              refine wp_region_last 19 _ rfl (fun w' => w'.cell? ⟨w.heap.size + 1 + 1, 4, none⟩ = some (.slice none 0 0) ∧ w'.cell? ⟨w.heap.size, 4, none⟩ = some (.slice (some ⟨bn, on, none⟩) t.names.length c') ∧ w'.cell? ⟨bn, on, none⟩ = some (.string nm)) (by kernel_rfl) rfl (by kernel_rfl) ?_ (fun hHeld => ?_)
              · (refine ⟨?_, ?_, ?_⟩ <;> (repeat (first | assumption | refine cell_drS ?_ | refine cell_alS ?_ _)))
              refine wpAnyH_take (i := 1) (oi := { dst := some 70, op := Op.fieldAddr 29 (Operand.tmp 3) 4, type := 0, pos := "l8_patch.go:90", after := #[], guard := none }) (v := ?_) rfl (by kernel_rfl) (by kernel_rfl) (by kernel_rfl) (fun _ _ _ h => h) (Or.inl ⟨by rfl, ?_⟩) (by assumption) ?_
              rotate_left 1
              · (intro w hSw; (try dsimp only at hSw); go_simp)
                all_goals (try with_reducible rfl)
              try simp only [Act.put, List.setIfInBounds_toArray, List.set_cons_zero, List.set_cons_succ]
              refine wpAnyH_take (i := 2) (oi := { dst := some 71, op := Op.load 23 (Operand.tmp 70), type := 23, pos := "l8_patch.go:90", after := #[{ on := 1, ground := Ground.data }], guard := none }) (v := ?_) rfl (by kernel_rfl) (by kernel_rfl) (by kernel_rfl) (fun _ _ _ h => h) (Or.inl ⟨by rfl, ?_⟩) (by assumption) ?_
              rotate_left 1
              · (intro w hSw; (try dsimp only at hSw); go_simp)
                all_goals (try with_reducible rfl)
              try simp only [Act.put, List.setIfInBounds_toArray, List.set_cons_zero, List.set_cons_succ]
              refine wpAnyH_take (i := 3) (oi := { dst := some 72, op := Op.move (Operand.tmp 5), type := 3, pos := "l8_patch.go:90", after := #[], guard := none }) (v := ?_) rfl (by kernel_rfl) (by kernel_rfl) (by kernel_rfl) (fun _ _ _ h => h) (Or.inl ⟨by rfl, ?_⟩) (by assumption) ?_
              rotate_left 1
              · (intro w hSw; (try dsimp only at hSw); go_simp)
                all_goals (try with_reducible rfl)
              try simp only [Act.put, List.setIfInBounds_toArray, List.set_cons_zero, List.set_cons_succ]
              refine wpAnyH_take (i := 4) (oi := { dst := some 73, op := Op.slice 23 (Operand.tmp 71) none (some (Operand.tmp 72)) none, type := 23, pos := "l8_patch.go:90", after := #[{ on := 2, ground := Ground.data }, { on := 3, ground := Ground.data }], guard := none }) (v := ?_) rfl (by kernel_rfl) (by kernel_rfl) (by kernel_rfl) (fun _ _ _ h => h) (Or.inl ⟨by rfl, ?_⟩) (by assumption) ?_
              rotate_left 1
              · (intro w hSw; (try dsimp only at hSw); go_simp)
                all_goals (try with_reducible rfl)
              try simp only [Act.put, List.setIfInBounds_toArray, List.set_cons_zero, List.set_cons_succ]
              refine wpAnyH_take (i := 6) (oi := { dst := some 75, op := Op.fieldAddr 29 (Operand.tmp 1) 4, type := 0, pos := "l8_patch.go:90", after := #[], guard := none }) (v := ?_) rfl (by kernel_rfl) (by kernel_rfl) (by kernel_rfl) (fun _ _ _ h => h) (Or.inl ⟨by rfl, ?_⟩) (by assumption) ?_
              rotate_left 1
              · (intro w hSw; (try dsimp only at hSw); go_simp)
                all_goals (try with_reducible rfl)
              try simp only [Act.put, List.setIfInBounds_toArray, List.set_cons_zero, List.set_cons_succ]
              refine wpAnyH_take (i := 7) (oi := { dst := some 76, op := Op.load 23 (Operand.tmp 75), type := 23, pos := "l8_patch.go:90", after := #[{ on := 6, ground := Ground.data }], guard := none }) (v := ?_) rfl (by kernel_rfl) (by kernel_rfl) (by kernel_rfl) (fun _ _ _ h => h) (Or.inl ⟨by rfl, ?_⟩) (by assumption) ?_
              rotate_left 1
              · (intro w hSw; (try dsimp only at hSw); go_simp)
                all_goals (try with_reducible rfl)
              try simp only [Act.put, List.setIfInBounds_toArray, List.set_cons_zero, List.set_cons_succ]
              refine wpAnyH_take (i := 8) (oi := { dst := some 77, op := Op.move (Operand.tmp 4), type := 3, pos := "l8_patch.go:90", after := #[], guard := none }) (v := ?_) rfl (by kernel_rfl) (by kernel_rfl) (by kernel_rfl) (fun _ _ _ h => h) (Or.inl ⟨by rfl, ?_⟩) (by assumption) ?_
              rotate_left 1
              · (intro w hSw; (try dsimp only at hSw); go_simp)
                all_goals (try with_reducible rfl)
              try simp only [Act.put, List.setIfInBounds_toArray, List.set_cons_zero, List.set_cons_succ]
              refine wpAnyH_take (i := 9) (oi := { dst := some 78, op := Op.indexAddr 23 (Operand.tmp 76) (Operand.tmp 77), type := 0, pos := "l8_patch.go:90", after := #[{ on := 7, ground := Ground.data }, { on := 8, ground := Ground.data }], guard := none }) (v := ?_) rfl (by kernel_rfl) (by kernel_rfl) (by kernel_rfl) (fun _ _ _ h => h) (Or.inl ⟨by rfl, ?_⟩) (by assumption) ?_
              rotate_left 1
              · (intro w hSw; (try dsimp only at hSw); go_simp)
                all_goals (try with_reducible rfl)
              try simp only [Act.put, List.setIfInBounds_toArray, List.set_cons_zero, List.set_cons_succ]
              refine wpAnyH_take (i := 10) (oi := { dst := some 79, op := Op.load 9 (Operand.tmp 78), type := 9, pos := "l8_patch.go:90", after := #[{ on := 9, ground := Ground.data }], guard := none }) (v := ?_) rfl (by kernel_rfl) (by kernel_rfl) (by kernel_rfl) (fun _ _ _ h => h) (Or.inl ⟨by rfl, ?_⟩) (by assumption) ?_
              rotate_left 1
              · (intro w hSw; (try dsimp only at hSw); go_simp)
                all_goals (try with_reducible rfl)
              try simp only [Act.put, List.setIfInBounds_toArray, List.set_cons_zero, List.set_cons_succ]
              refine wpAnyH_take (i := 13) (oi := { dst := some 82, op := Op.fieldAddr 29 (Operand.tmp 3) 4, type := 0, pos := "l8_patch.go:90", after := #[], guard := none }) (v := ?_) rfl (by kernel_rfl) (by kernel_rfl) (by kernel_rfl) (fun _ _ _ h => h) (Or.inl ⟨by rfl, ?_⟩) (by assumption) ?_
              rotate_left 1
              · (intro w hSw; (try dsimp only at hSw); go_simp)
                all_goals (try with_reducible rfl)
              try simp only [Act.put, List.setIfInBounds_toArray, List.set_cons_zero, List.set_cons_succ]
              refine wpAnyH_take (i := 14) (oi := { dst := some 83, op := Op.load 23 (Operand.tmp 82), type := 23, pos := "l8_patch.go:90", after := #[{ on := 13, ground := Ground.data }], guard := none }) (v := ?_) rfl (by kernel_rfl) (by kernel_rfl) (by kernel_rfl) (fun _ _ _ h => h) (Or.inl ⟨by rfl, ?_⟩) (by assumption) ?_
              rotate_left 1
              · (intro w hSw; (try dsimp only at hSw); go_simp)
                all_goals (try with_reducible rfl)
              try simp only [Act.put, List.setIfInBounds_toArray, List.set_cons_zero, List.set_cons_succ]
              refine wpAnyH_take (i := 15) (oi := { dst := some 84, op := Op.move (Operand.tmp 5), type := 3, pos := "l8_patch.go:90", after := #[], guard := none }) (v := ?_) rfl (by kernel_rfl) (by kernel_rfl) (by kernel_rfl) (fun _ _ _ h => h) (Or.inl ⟨by rfl, ?_⟩) (by assumption) ?_
              rotate_left 1
              · (intro w hSw; (try dsimp only at hSw); go_simp)
                all_goals (try with_reducible rfl)
              try simp only [Act.put, List.setIfInBounds_toArray, List.set_cons_zero, List.set_cons_succ]
              refine wpAnyH_take (i := 16) (oi := { dst := some 85, op := Op.slice 23 (Operand.tmp 83) (some (Operand.tmp 84)) none none, type := 23, pos := "l8_patch.go:90", after := #[{ on := 14, ground := Ground.data }, { on := 15, ground := Ground.data }], guard := none }) (v := ?_) rfl (by kernel_rfl) (by kernel_rfl) (by kernel_rfl) (fun _ _ _ h => h) (Or.inl ⟨by rfl, ?_⟩) (by assumption) ?_
              rotate_left 1
              · (intro w hSw; (try dsimp only at hSw); go_simp)
                all_goals (try with_reducible rfl)
              try simp only [Act.put, List.setIfInBounds_toArray, List.set_cons_zero, List.set_cons_succ]
              refine wpAnyH_ready (rs := [0, 11]) (by kernel_rfl) (by simp) ?_
              refine AllReadyH.cons (o := { dst := some 69, op := Op.buildSlice 23 0 #[], type := 23, pos := "l8_patch.go:90", after := #[], guard := none }) rfl (fun K hK => ?_) ?_
              · go_simp
                refine hK.out _ _ ?_ (fun hHeld1 => ?_)
                · try dsimp only
                  (refine ⟨?_, ?_, ?_⟩ <;> (repeat (first | assumption | refine cell_drS ?_ | refine cell_alS ?_ _)))
                clear hK K hHeld
                try simp only [Act.put, List.setIfInBounds_toArray, List.set_cons_zero, List.set_cons_succ]
                refine wpAnyH_ready (rs := [5, 11]) (by kernel_rfl) (by simp) ?_
                refine AllReadyH.cons (o := { dst := some 74, op := Op.call { callee := Callee.builtin Builtin.append, args := #[Operand.tmp 69, Operand.tmp 73], argTypes := #[23, 23] }, type := 23, pos := "l8_patch.go:90", after := #[{ on := 0, ground := Ground.data }, { on := 4, ground := Ground.data }], guard := none }) rfl (fun K hK => ?_) ?_
                · (first | (refine step_append_nil (by rfl) _ _ _ (by rfl) wc.heap.size 9 i1 1 Try.underlying23 hj0 (.slice (some ⟨wc.heap.size, 0, none⟩) 0 0) 0 [] (by rfl) (by first | exact made_one rfl | exact (made_two (nm := nm) rfl).1) (by rfl) ?_) | (refine step_append_nil (by rfl) _ _ _ (by rfl) wc.heap.size 9 i1 1 Try.underlying23 hj0 (.slice (some ⟨wc.heap.size + 1, 0, none⟩) 0 0) 0 [] (by rfl) (made_rev (nm := nm) rfl).1 (by rfl) ?_))
                  refine hK.out _ _ ?_ (fun hHeld2 => ?_)
                  · try dsimp only
                    (refine ⟨?_, ?_, ?_⟩ <;> (repeat (first | assumption | refine cell_drS ?_ | refine cell_alS ?_ _)))
                  clear hK K hHeld1
                  try simp only [Act.put, List.setIfInBounds_toArray, List.set_cons_zero, List.set_cons_succ]
                  refine wpAnyH_ready (rs := [11]) (by kernel_rfl) (by simp) ?_
                  refine AllReadyH.cons (o := { dst := some 80, op := Op.buildSlice 23 1 #[(0, Operand.tmp 79)], type := 23, pos := "l8_patch.go:90", after := #[{ on := 10, ground := Ground.data }], guard := none }) rfl (fun K hK => ?_) ?_
                  · go_simp
                    refine hK.out _ _ ?_ (fun hHeld3 => ?_)
                    · try dsimp only
                      (refine ⟨?_, ?_, ?_⟩ <;> (repeat (first | assumption | refine cell_drS ?_ | refine cell_alS ?_ _)))
                    clear hK K hHeld2
                    try simp only [Act.put, List.setIfInBounds_toArray, List.set_cons_zero, List.set_cons_succ]
                    refine wpAnyH_ready (rs := [12]) (by kernel_rfl) (by simp) ?_
                    refine AllReadyH.cons (o := { dst := some 81, op := Op.call { callee := Callee.builtin Builtin.append, args := #[Operand.tmp 74, Operand.tmp 80], argTypes := #[23, 23] }, type := 23, pos := "l8_patch.go:90", after := #[{ on := 5, ground := Ground.data }, { on := 11, ground := Ground.data }, { on := 5, ground := Ground.chain }], guard := none }) rfl (fun K hK => ?_) ?_
                    · (first | (refine step_append_some (by rfl) _ _ _ (by rfl) wc.heap.size 9 i1 _ 1 16 Try.underlying23 hj0 hy0 hy1 hy2 rfl (by omega) (.slice (some ⟨wc.heap.size, 0, none⟩) 0 0) 0 [] (by rfl) (made_two (nm := nm) rfl).1 ⟨wc.heap.size + 1, 0, none⟩ 1 1 [.string nm] (by rfl) (by rfl) (World.news_of_block (cs := #[.string nm]) (t := 9) (fr := (0, 0)) (made_two (nm := nm) rfl).2) (by simp [Value.oneCell']) (by simp) (by decide) (by decide) HTWO.out.size _ rfl ?_; intro g2 cap2 w5 hown4 hgrow4 hat4 hlt4; have HB5 : Hid (Below wc.heap.size wc w5) := below_grown0 HTWO.out (Nat.le_refl _) ⟨hgrow4.os, hgrow4.tape, hgrow4.output, hgrow4.size, hgrow4.block⟩ (fun q hq => by have he2 : wc.heap.size = q := Option.some.inj hq; omega); have HW5 : Hid (w5.ownsRow wc.heap.size 9 1 (.slice (some ⟨g2, 0, none⟩) 1 cap2) 1 [.string nm]) := (by rw [Nat.zero_add, List.nil_append] at hown4; exact hown4); obtain ⟨m0, m1, m2⟩ := HHELD.out w5 HB5.out; obtain ⟨hfz, hszz⟩ := HFR.out w5 HB5.out; clear hown4 hgrow4 hat4) | (refine step_append_some (by rfl) _ _ _ (by rfl) wc.heap.size 9 i1 _ 1 16 Try.underlying23 hj0 hy0 hy1 hy2 rfl (by omega) (.slice (some ⟨wc.heap.size + 1, 0, none⟩) 0 0) 0 [] (by rfl) (made_rev (nm := nm) rfl).1 ⟨wc.heap.size, 0, none⟩ 1 1 [.string nm] (by rfl) (by rfl) (World.news_of_block (cs := #[.string nm]) (t := 9) (fr := (0, 0)) (made_rev (nm := nm) rfl).2) (by simp [Value.oneCell']) (by simp) (by decide) (by decide) HREV.out.size _ rfl ?_; intro g2 cap2 w5 hown4 hgrow4 hat4 hlt4; have HB5 : Hid (Below wc.heap.size wc w5) := below_grown0 HREV.out (Nat.le_refl _) ⟨hgrow4.os, hgrow4.tape, hgrow4.output, hgrow4.size, hgrow4.block⟩ (fun q hq => by have he2 : wc.heap.size + 1 = q := Option.some.inj hq; omega); have HW5 : Hid (w5.ownsRow wc.heap.size 9 1 (.slice (some ⟨g2, 0, none⟩) 1 cap2) 1 [.string nm]) := (by rw [Nat.zero_add, List.nil_append] at hown4; exact hown4); obtain ⟨m0, m1, m2⟩ := HHELD.out w5 HB5.out; obtain ⟨hfz, hszz⟩ := HFR.out w5 HB5.out; clear hown4 hgrow4 hat4))
                      refine hK.out _ _ ?_ (fun hHeld4 => ?_)
                      · try dsimp only
                        (refine ⟨?_, ?_, ?_⟩ <;> (repeat (first | assumption | refine cell_drS ?_ | refine cell_alS ?_ _)))
                      clear hK K hHeld3
                      try simp only [Act.put, List.setIfInBounds_toArray, List.set_cons_zero, List.set_cons_succ]
                      refine wpAnyH_ready (rs := [17]) (by kernel_rfl) (by simp) ?_
                      refine AllReadyH.cons (o := { dst := some 86, op := Op.call { callee := Callee.builtin Builtin.append, args := #[Operand.tmp 81, Operand.tmp 85], argTypes := #[23, 23] }, type := 23, pos := "l8_patch.go:90", after := #[{ on := 12, ground := Ground.data }, { on := 16, ground := Ground.data }, { on := 12, ground := Ground.chain }], guard := none }) rfl (fun K hK => ?_) ?_
                      · (refine step_append_nil (by rfl) _ _ _ (by rfl) wc.heap.size 9 i1 1 Try.underlying23 hj0 (.slice (some ⟨g2, 0, none⟩) 1 cap2) 1 [.string nm] (by rfl) HW5.out (by rfl) ?_)
                        refine hK.out _ _ ?_ (fun hHeld5 => ?_)
                        · try dsimp only
                          (refine ⟨?_, ?_, ?_⟩ <;> (repeat (first | assumption | refine cell_drS ?_ | refine cell_alS ?_ _)))
                        clear hK K hHeld4
                        try simp only [Act.put, List.setIfInBounds_toArray, List.set_cons_zero, List.set_cons_succ]
                        refine wpAnyH_take (i := 18) (oi := { dst := some 87, op := Op.fieldAddr 29 (Operand.tmp 3) 4, type := 0, pos := "l8_patch.go:90", after := #[{ on := 0, ground := Ground.phase }, { on := 1, ground := Ground.phase }, { on := 2, ground := Ground.phase }, { on := 3, ground := Ground.phase }, { on := 4, ground := Ground.phase }, { on := 5, ground := Ground.phase }, { on := 6, ground := Ground.phase }, { on := 7, ground := Ground.phase }, { on := 8, ground := Ground.phase }, { on := 9, ground := Ground.phase }, { on := 10, ground := Ground.phase }, { on := 11, ground := Ground.phase }, { on := 12, ground := Ground.phase }, { on := 13, ground := Ground.phase }, { on := 14, ground := Ground.phase }, { on := 15, ground := Ground.phase }, { on := 16, ground := Ground.phase }, { on := 17, ground := Ground.phase }], guard := none }) (v := ?_) rfl (by kernel_rfl) (by kernel_rfl) (by kernel_rfl) (fun _ _ _ h => h) (Or.inl ⟨by rfl, ?_⟩) (by assumption) ?_
                        rotate_left 1
                        · (intro w hSw; (try dsimp only at hSw); go_simp)
                          all_goals (try with_reducible rfl)
                        try simp only [Act.put, List.setIfInBounds_toArray, List.set_cons_zero, List.set_cons_succ]
                        refine wpAnyH_done (by kernel_rfl) ?_ _
                        intro KK hKK
                        go_simp
                        refine hKK _ _ ?_
                        clear hKK KK
                        go_wp2_with fail
                        have h1 := out_metN (N := []) (nm := nm) (j := 0) (v' := .slice (some ⟨g2, 0, none⟩) 1 cap2) (tot := 1) HOL1.out HP1.out HBW1.out HSZ1.out HB5.out (by simpa using HW5.out) rfl (wx := w5.setCell ⟨w.heap.size + 1 + 1, 4, none⟩ (.slice (some ⟨g2, 0, none⟩) 1 cap2)) rfl ⟨rfl, rfl, rfl⟩
                        exact ⟨⟨0 + 1, insAt L 0 si, insAt [] 0 nm, some ⟨g3, 0, none⟩, cap3, some ⟨g2, 0, none⟩, cap2, xs', hlt, by first | rfl | go_num, HLI1, HDS2, h1.1, h1.2.1, h1.2.2.1.1, h1.2.2.1.2.1, h1.2.2.1.2.2, h1.2.2.2.1, h1.2.2.2.2, fun h => absurd h (Nat.succ_ne_zero 0)⟩, by simp [intOf] <;> omega⟩
                      exact AllReadyH.nil
                    exact AllReadyH.nil
                  exact AllReadyH.nil
                refine AllReadyH.cons (o := { dst := some 80, op := Op.buildSlice 23 1 #[(0, Operand.tmp 79)], type := 23, pos := "l8_patch.go:90", after := #[{ on := 10, ground := Ground.data }], guard := none }) rfl (fun K hK => ?_) ?_
                · go_simp
                  refine hK.out _ _ ?_ (fun hHeld6 => ?_)
                  · try dsimp only
                    (refine ⟨?_, ?_, ?_⟩ <;> (repeat (first | assumption | refine cell_drS ?_ | refine cell_alS ?_ _)))
                  clear hK K hHeld1
                  try simp only [Act.put, List.setIfInBounds_toArray, List.set_cons_zero, List.set_cons_succ]
                  refine wpAnyH_ready (rs := [5]) (by kernel_rfl) (by simp) ?_
                  refine AllReadyH.cons (o := { dst := some 74, op := Op.call { callee := Callee.builtin Builtin.append, args := #[Operand.tmp 69, Operand.tmp 73], argTypes := #[23, 23] }, type := 23, pos := "l8_patch.go:90", after := #[{ on := 0, ground := Ground.data }, { on := 4, ground := Ground.data }], guard := none }) rfl (fun K hK => ?_) ?_
                  · (first | (refine step_append_nil (by rfl) _ _ _ (by rfl) wc.heap.size 9 i1 1 Try.underlying23 hj0 (.slice (some ⟨wc.heap.size, 0, none⟩) 0 0) 0 [] (by rfl) (by first | exact made_one rfl | exact (made_two (nm := nm) rfl).1) (by rfl) ?_) | (refine step_append_nil (by rfl) _ _ _ (by rfl) wc.heap.size 9 i1 1 Try.underlying23 hj0 (.slice (some ⟨wc.heap.size + 1, 0, none⟩) 0 0) 0 [] (by rfl) (made_rev (nm := nm) rfl).1 (by rfl) ?_))
                    refine hK.out _ _ ?_ (fun hHeld7 => ?_)
                    · try dsimp only
                      (refine ⟨?_, ?_, ?_⟩ <;> (repeat (first | assumption | refine cell_drS ?_ | refine cell_alS ?_ _)))
                    clear hK K hHeld6
                    try simp only [Act.put, List.setIfInBounds_toArray, List.set_cons_zero, List.set_cons_succ]
                    refine wpAnyH_ready (rs := [12]) (by kernel_rfl) (by simp) ?_
                    refine AllReadyH.cons (o := { dst := some 81, op := Op.call { callee := Callee.builtin Builtin.append, args := #[Operand.tmp 74, Operand.tmp 80], argTypes := #[23, 23] }, type := 23, pos := "l8_patch.go:90", after := #[{ on := 5, ground := Ground.data }, { on := 11, ground := Ground.data }, { on := 5, ground := Ground.chain }], guard := none }) rfl (fun K hK => ?_) ?_
                    · (first | (refine step_append_some (by rfl) _ _ _ (by rfl) wc.heap.size 9 i1 _ 1 16 Try.underlying23 hj0 hy0 hy1 hy2 rfl (by omega) (.slice (some ⟨wc.heap.size, 0, none⟩) 0 0) 0 [] (by rfl) (made_two (nm := nm) rfl).1 ⟨wc.heap.size + 1, 0, none⟩ 1 1 [.string nm] (by rfl) (by rfl) (World.news_of_block (cs := #[.string nm]) (t := 9) (fr := (0, 0)) (made_two (nm := nm) rfl).2) (by simp [Value.oneCell']) (by simp) (by decide) (by decide) HTWO.out.size _ rfl ?_; intro g2 cap2 w5 hown4 hgrow4 hat4 hlt4; have HB5 : Hid (Below wc.heap.size wc w5) := below_grown0 HTWO.out (Nat.le_refl _) ⟨hgrow4.os, hgrow4.tape, hgrow4.output, hgrow4.size, hgrow4.block⟩ (fun q hq => by have he2 : wc.heap.size = q := Option.some.inj hq; omega); have HW5 : Hid (w5.ownsRow wc.heap.size 9 1 (.slice (some ⟨g2, 0, none⟩) 1 cap2) 1 [.string nm]) := (by rw [Nat.zero_add, List.nil_append] at hown4; exact hown4); obtain ⟨m0, m1, m2⟩ := HHELD.out w5 HB5.out; obtain ⟨hfz, hszz⟩ := HFR.out w5 HB5.out; clear hown4 hgrow4 hat4) | (refine step_append_some (by rfl) _ _ _ (by rfl) wc.heap.size 9 i1 _ 1 16 Try.underlying23 hj0 hy0 hy1 hy2 rfl (by omega) (.slice (some ⟨wc.heap.size + 1, 0, none⟩) 0 0) 0 [] (by rfl) (made_rev (nm := nm) rfl).1 ⟨wc.heap.size, 0, none⟩ 1 1 [.string nm] (by rfl) (by rfl) (World.news_of_block (cs := #[.string nm]) (t := 9) (fr := (0, 0)) (made_rev (nm := nm) rfl).2) (by simp [Value.oneCell']) (by simp) (by decide) (by decide) HREV.out.size _ rfl ?_; intro g2 cap2 w5 hown4 hgrow4 hat4 hlt4; have HB5 : Hid (Below wc.heap.size wc w5) := below_grown0 HREV.out (Nat.le_refl _) ⟨hgrow4.os, hgrow4.tape, hgrow4.output, hgrow4.size, hgrow4.block⟩ (fun q hq => by have he2 : wc.heap.size + 1 = q := Option.some.inj hq; omega); have HW5 : Hid (w5.ownsRow wc.heap.size 9 1 (.slice (some ⟨g2, 0, none⟩) 1 cap2) 1 [.string nm]) := (by rw [Nat.zero_add, List.nil_append] at hown4; exact hown4); obtain ⟨m0, m1, m2⟩ := HHELD.out w5 HB5.out; obtain ⟨hfz, hszz⟩ := HFR.out w5 HB5.out; clear hown4 hgrow4 hat4))
                      refine hK.out _ _ ?_ (fun hHeld8 => ?_)
                      · try dsimp only
                        (refine ⟨?_, ?_, ?_⟩ <;> (repeat (first | assumption | refine cell_drS ?_ | refine cell_alS ?_ _)))
                      clear hK K hHeld7
                      try simp only [Act.put, List.setIfInBounds_toArray, List.set_cons_zero, List.set_cons_succ]
                      refine wpAnyH_ready (rs := [17]) (by kernel_rfl) (by simp) ?_
                      refine AllReadyH.cons (o := { dst := some 86, op := Op.call { callee := Callee.builtin Builtin.append, args := #[Operand.tmp 81, Operand.tmp 85], argTypes := #[23, 23] }, type := 23, pos := "l8_patch.go:90", after := #[{ on := 12, ground := Ground.data }, { on := 16, ground := Ground.data }, { on := 12, ground := Ground.chain }], guard := none }) rfl (fun K hK => ?_) ?_
                      · (refine step_append_nil (by rfl) _ _ _ (by rfl) wc.heap.size 9 i1 1 Try.underlying23 hj0 (.slice (some ⟨g2, 0, none⟩) 1 cap2) 1 [.string nm] (by rfl) HW5.out (by rfl) ?_)
                        refine hK.out _ _ ?_ (fun hHeld9 => ?_)
                        · try dsimp only
                          (refine ⟨?_, ?_, ?_⟩ <;> (repeat (first | assumption | refine cell_drS ?_ | refine cell_alS ?_ _)))
                        clear hK K hHeld8
                        try simp only [Act.put, List.setIfInBounds_toArray, List.set_cons_zero, List.set_cons_succ]
                        refine wpAnyH_take (i := 18) (oi := { dst := some 87, op := Op.fieldAddr 29 (Operand.tmp 3) 4, type := 0, pos := "l8_patch.go:90", after := #[{ on := 0, ground := Ground.phase }, { on := 1, ground := Ground.phase }, { on := 2, ground := Ground.phase }, { on := 3, ground := Ground.phase }, { on := 4, ground := Ground.phase }, { on := 5, ground := Ground.phase }, { on := 6, ground := Ground.phase }, { on := 7, ground := Ground.phase }, { on := 8, ground := Ground.phase }, { on := 9, ground := Ground.phase }, { on := 10, ground := Ground.phase }, { on := 11, ground := Ground.phase }, { on := 12, ground := Ground.phase }, { on := 13, ground := Ground.phase }, { on := 14, ground := Ground.phase }, { on := 15, ground := Ground.phase }, { on := 16, ground := Ground.phase }, { on := 17, ground := Ground.phase }], guard := none }) (v := ?_) rfl (by kernel_rfl) (by kernel_rfl) (by kernel_rfl) (fun _ _ _ h => h) (Or.inl ⟨by rfl, ?_⟩) (by assumption) ?_
                        rotate_left 1
                        · (intro w hSw; (try dsimp only at hSw); go_simp)
                          all_goals (try with_reducible rfl)
                        try simp only [Act.put, List.setIfInBounds_toArray, List.set_cons_zero, List.set_cons_succ]
                        refine wpAnyH_done (by kernel_rfl) ?_ _
                        intro KK hKK
                        go_simp
                        refine hKK _ _ ?_
                        clear hKK KK
                        go_wp2_with fail
                        have h1 := out_metN (N := []) (nm := nm) (j := 0) (v' := .slice (some ⟨g2, 0, none⟩) 1 cap2) (tot := 1) HOL1.out HP1.out HBW1.out HSZ1.out HB5.out (by simpa using HW5.out) rfl (wx := w5.setCell ⟨w.heap.size + 1 + 1, 4, none⟩ (.slice (some ⟨g2, 0, none⟩) 1 cap2)) rfl ⟨rfl, rfl, rfl⟩
                        exact ⟨⟨0 + 1, insAt L 0 si, insAt [] 0 nm, some ⟨g3, 0, none⟩, cap3, some ⟨g2, 0, none⟩, cap2, xs', hlt, by first | rfl | go_num, HLI1, HDS2, h1.1, h1.2.1, h1.2.2.1.1, h1.2.2.1.2.1, h1.2.2.1.2.2, h1.2.2.2.1, h1.2.2.2.2, fun h => absurd h (Nat.succ_ne_zero 0)⟩, by simp [intOf] <;> omega⟩
                      exact AllReadyH.nil
                    exact AllReadyH.nil
                  exact AllReadyH.nil
                exact AllReadyH.nil
              refine AllReadyH.cons (o := { dst := some 80, op := Op.buildSlice 23 1 #[(0, Operand.tmp 79)], type := 23, pos := "l8_patch.go:90", after := #[{ on := 10, ground := Ground.data }], guard := none }) rfl (fun K hK => ?_) ?_
              · go_simp
                refine hK.out _ _ ?_ (fun hHeld10 => ?_)
                · try dsimp only
                  (refine ⟨?_, ?_, ?_⟩ <;> (repeat (first | assumption | refine cell_drS ?_ | refine cell_alS ?_ _)))
                clear hK K hHeld
                try simp only [Act.put, List.setIfInBounds_toArray, List.set_cons_zero, List.set_cons_succ]
                refine wpAnyH_ready (rs := [0]) (by kernel_rfl) (by simp) ?_
                refine AllReadyH.cons (o := { dst := some 69, op := Op.buildSlice 23 0 #[], type := 23, pos := "l8_patch.go:90", after := #[], guard := none }) rfl (fun K hK => ?_) ?_
                · go_simp
                  refine hK.out _ _ ?_ (fun hHeld11 => ?_)
                  · try dsimp only
                    (refine ⟨?_, ?_, ?_⟩ <;> (repeat (first | assumption | refine cell_drS ?_ | refine cell_alS ?_ _)))
                  clear hK K hHeld10
                  try simp only [Act.put, List.setIfInBounds_toArray, List.set_cons_zero, List.set_cons_succ]
                  refine wpAnyH_ready (rs := [5]) (by kernel_rfl) (by simp) ?_
                  refine AllReadyH.cons (o := { dst := some 74, op := Op.call { callee := Callee.builtin Builtin.append, args := #[Operand.tmp 69, Operand.tmp 73], argTypes := #[23, 23] }, type := 23, pos := "l8_patch.go:90", after := #[{ on := 0, ground := Ground.data }, { on := 4, ground := Ground.data }], guard := none }) rfl (fun K hK => ?_) ?_
                  · (first | (refine step_append_nil (by rfl) _ _ _ (by rfl) wc.heap.size 9 i1 1 Try.underlying23 hj0 (.slice (some ⟨wc.heap.size, 0, none⟩) 0 0) 0 [] (by rfl) (by first | exact made_one rfl | exact (made_two (nm := nm) rfl).1) (by rfl) ?_) | (refine step_append_nil (by rfl) _ _ _ (by rfl) wc.heap.size 9 i1 1 Try.underlying23 hj0 (.slice (some ⟨wc.heap.size + 1, 0, none⟩) 0 0) 0 [] (by rfl) (made_rev (nm := nm) rfl).1 (by rfl) ?_))
                    refine hK.out _ _ ?_ (fun hHeld12 => ?_)
                    · try dsimp only
                      (refine ⟨?_, ?_, ?_⟩ <;> (repeat (first | assumption | refine cell_drS ?_ | refine cell_alS ?_ _)))
                    clear hK K hHeld11
                    try simp only [Act.put, List.setIfInBounds_toArray, List.set_cons_zero, List.set_cons_succ]
                    refine wpAnyH_ready (rs := [12]) (by kernel_rfl) (by simp) ?_
                    refine AllReadyH.cons (o := { dst := some 81, op := Op.call { callee := Callee.builtin Builtin.append, args := #[Operand.tmp 74, Operand.tmp 80], argTypes := #[23, 23] }, type := 23, pos := "l8_patch.go:90", after := #[{ on := 5, ground := Ground.data }, { on := 11, ground := Ground.data }, { on := 5, ground := Ground.chain }], guard := none }) rfl (fun K hK => ?_) ?_
                    · (first | (refine step_append_some (by rfl) _ _ _ (by rfl) wc.heap.size 9 i1 _ 1 16 Try.underlying23 hj0 hy0 hy1 hy2 rfl (by omega) (.slice (some ⟨wc.heap.size, 0, none⟩) 0 0) 0 [] (by rfl) (made_two (nm := nm) rfl).1 ⟨wc.heap.size + 1, 0, none⟩ 1 1 [.string nm] (by rfl) (by rfl) (World.news_of_block (cs := #[.string nm]) (t := 9) (fr := (0, 0)) (made_two (nm := nm) rfl).2) (by simp [Value.oneCell']) (by simp) (by decide) (by decide) HTWO.out.size _ rfl ?_; intro g2 cap2 w5 hown4 hgrow4 hat4 hlt4; have HB5 : Hid (Below wc.heap.size wc w5) := below_grown0 HTWO.out (Nat.le_refl _) ⟨hgrow4.os, hgrow4.tape, hgrow4.output, hgrow4.size, hgrow4.block⟩ (fun q hq => by have he2 : wc.heap.size = q := Option.some.inj hq; omega); have HW5 : Hid (w5.ownsRow wc.heap.size 9 1 (.slice (some ⟨g2, 0, none⟩) 1 cap2) 1 [.string nm]) := (by rw [Nat.zero_add, List.nil_append] at hown4; exact hown4); obtain ⟨m0, m1, m2⟩ := HHELD.out w5 HB5.out; obtain ⟨hfz, hszz⟩ := HFR.out w5 HB5.out; clear hown4 hgrow4 hat4) | (refine step_append_some (by rfl) _ _ _ (by rfl) wc.heap.size 9 i1 _ 1 16 Try.underlying23 hj0 hy0 hy1 hy2 rfl (by omega) (.slice (some ⟨wc.heap.size + 1, 0, none⟩) 0 0) 0 [] (by rfl) (made_rev (nm := nm) rfl).1 ⟨wc.heap.size, 0, none⟩ 1 1 [.string nm] (by rfl) (by rfl) (World.news_of_block (cs := #[.string nm]) (t := 9) (fr := (0, 0)) (made_rev (nm := nm) rfl).2) (by simp [Value.oneCell']) (by simp) (by decide) (by decide) HREV.out.size _ rfl ?_; intro g2 cap2 w5 hown4 hgrow4 hat4 hlt4; have HB5 : Hid (Below wc.heap.size wc w5) := below_grown0 HREV.out (Nat.le_refl _) ⟨hgrow4.os, hgrow4.tape, hgrow4.output, hgrow4.size, hgrow4.block⟩ (fun q hq => by have he2 : wc.heap.size + 1 = q := Option.some.inj hq; omega); have HW5 : Hid (w5.ownsRow wc.heap.size 9 1 (.slice (some ⟨g2, 0, none⟩) 1 cap2) 1 [.string nm]) := (by rw [Nat.zero_add, List.nil_append] at hown4; exact hown4); obtain ⟨m0, m1, m2⟩ := HHELD.out w5 HB5.out; obtain ⟨hfz, hszz⟩ := HFR.out w5 HB5.out; clear hown4 hgrow4 hat4))
                      refine hK.out _ _ ?_ (fun hHeld13 => ?_)
                      · try dsimp only
                        (refine ⟨?_, ?_, ?_⟩ <;> (repeat (first | assumption | refine cell_drS ?_ | refine cell_alS ?_ _)))
                      clear hK K hHeld12
                      try simp only [Act.put, List.setIfInBounds_toArray, List.set_cons_zero, List.set_cons_succ]
                      refine wpAnyH_ready (rs := [17]) (by kernel_rfl) (by simp) ?_
                      refine AllReadyH.cons (o := { dst := some 86, op := Op.call { callee := Callee.builtin Builtin.append, args := #[Operand.tmp 81, Operand.tmp 85], argTypes := #[23, 23] }, type := 23, pos := "l8_patch.go:90", after := #[{ on := 12, ground := Ground.data }, { on := 16, ground := Ground.data }, { on := 12, ground := Ground.chain }], guard := none }) rfl (fun K hK => ?_) ?_
                      · (refine step_append_nil (by rfl) _ _ _ (by rfl) wc.heap.size 9 i1 1 Try.underlying23 hj0 (.slice (some ⟨g2, 0, none⟩) 1 cap2) 1 [.string nm] (by rfl) HW5.out (by rfl) ?_)
                        refine hK.out _ _ ?_ (fun hHeld14 => ?_)
                        · try dsimp only
                          (refine ⟨?_, ?_, ?_⟩ <;> (repeat (first | assumption | refine cell_drS ?_ | refine cell_alS ?_ _)))
                        clear hK K hHeld13
                        try simp only [Act.put, List.setIfInBounds_toArray, List.set_cons_zero, List.set_cons_succ]
                        refine wpAnyH_take (i := 18) (oi := { dst := some 87, op := Op.fieldAddr 29 (Operand.tmp 3) 4, type := 0, pos := "l8_patch.go:90", after := #[{ on := 0, ground := Ground.phase }, { on := 1, ground := Ground.phase }, { on := 2, ground := Ground.phase }, { on := 3, ground := Ground.phase }, { on := 4, ground := Ground.phase }, { on := 5, ground := Ground.phase }, { on := 6, ground := Ground.phase }, { on := 7, ground := Ground.phase }, { on := 8, ground := Ground.phase }, { on := 9, ground := Ground.phase }, { on := 10, ground := Ground.phase }, { on := 11, ground := Ground.phase }, { on := 12, ground := Ground.phase }, { on := 13, ground := Ground.phase }, { on := 14, ground := Ground.phase }, { on := 15, ground := Ground.phase }, { on := 16, ground := Ground.phase }, { on := 17, ground := Ground.phase }], guard := none }) (v := ?_) rfl (by kernel_rfl) (by kernel_rfl) (by kernel_rfl) (fun _ _ _ h => h) (Or.inl ⟨by rfl, ?_⟩) (by assumption) ?_
                        rotate_left 1
                        · (intro w hSw; (try dsimp only at hSw); go_simp)
                          all_goals (try with_reducible rfl)
                        try simp only [Act.put, List.setIfInBounds_toArray, List.set_cons_zero, List.set_cons_succ]
                        refine wpAnyH_done (by kernel_rfl) ?_ _
                        intro KK hKK
                        go_simp
                        refine hKK _ _ ?_
                        clear hKK KK
                        go_wp2_with fail
                        have h1 := out_metN (N := []) (nm := nm) (j := 0) (v' := .slice (some ⟨g2, 0, none⟩) 1 cap2) (tot := 1) HOL1.out HP1.out HBW1.out HSZ1.out HB5.out (by simpa using HW5.out) rfl (wx := w5.setCell ⟨w.heap.size + 1 + 1, 4, none⟩ (.slice (some ⟨g2, 0, none⟩) 1 cap2)) rfl ⟨rfl, rfl, rfl⟩
                        exact ⟨⟨0 + 1, insAt L 0 si, insAt [] 0 nm, some ⟨g3, 0, none⟩, cap3, some ⟨g2, 0, none⟩, cap2, xs', hlt, by first | rfl | go_num, HLI1, HDS2, h1.1, h1.2.1, h1.2.2.1.1, h1.2.2.1.2.1, h1.2.2.1.2.2, h1.2.2.2.1, h1.2.2.2.2, fun h => absurd h (Nat.succ_ne_zero 0)⟩, by simp [intOf] <;> omega⟩
                      exact AllReadyH.nil
                    exact AllReadyH.nil
                  exact AllReadyH.nil
                exact AllReadyH.nil
              exact AllReadyH.nil
            · obtain ⟨g, hg⟩ : ∃ g, oa' = some ⟨g, 0, none⟩ := HON1.out.some_of (by rw [HNl.out]; omega)
              subst hg
              have hoc2 : N.length ≤ oc' := HON1.out.cap_of
              have hjN : j ≤ N.length := by rw [HNl.out]; exact hj
              have hjoc : (j : Int) ≤ (oc' : Int) := by omega
              have hjNi : (j : Int) ≤ (N.length : Int) := by omega
              have hNoc : (N.length : Int) ≤ (oc' : Int) := by omega
              have HONE : Hid (∀ u ∈ N.map Value.string, u.oneCell' = true) := fun u hu => by
                obtain ⟨s, _, rfl⟩ := List.mem_map.1 hu
                rfl
              have HLEN : Hid (((N.map Value.string).take j).length = j * 1 ∧ ((N.map Value.string).drop j).length = (N.length - j) * 1) := ⟨by rw [List.length_take, List.length_map]; omega, by rw [List.length_drop, List.length_map]; omega⟩
              obtain ⟨jo, HJO, HJ2⟩ : ∃ jo : Nat, Hid (Value.slice (if oc' = j then some (⟨g, 0, none⟩ : Addr) else some ⟨g, j, none⟩) (N.length - j) (oc' - j) = .slice (some ⟨g, jo, none⟩) (N.length - j) (oc' - j)) ∧ Hid (j < N.length → jo = j) := by
                by_cases h : oc' = j
                · exact ⟨0, (by show _ = _; rw [if_pos h]), fun h2 => absurd h (by omega)⟩
                · exact ⟨j, (by show _ = _; rw [if_neg h]), fun _ => rfl⟩
              have HNEWS : Hid (∀ W : World, (∀ q, q < wc.heap.size → W.heap[q]? = wc.heap[q]?) → (∀ q u, ((N.map Value.string).take j)[q]? = some u → W.cell? ((⟨g, 0, none⟩ : Addr).add q) = some u) ∧ ∀ q u, ((N.map Value.string).drop j)[q]? = some u → W.cell? ((⟨g, jo, none⟩ : Addr).add q) = some u) := fun W hW => by
                have hg := (World.ownsRow.lt HON1.out g rfl).2
                have h1 : ∀ q u, (N.map Value.string)[q]? = some u → W.cell? ⟨g, q, none⟩ = some u := fun q u hq => by
                  have h2 := World.ownsRow.cells HON1.out rfl q u hq
                  rw [Addr.add_mid, Nat.zero_add] at h2
                  rw [World.cell?_of_block (a := ⟨g, q, none⟩) (hW g hg)]
                  exact h2
                refine ⟨fun q u hq => ?_, fun q u hq => ?_⟩
                · rw [List.getElem?_take] at hq
                  split at hq
                  · rw [Addr.add_mid, Nat.zero_add]; exact h1 q u hq
                  · cases hq
                · rw [List.getElem?_drop] at hq
                  have h3 : j + q < (N.map Value.string).length := (List.getElem?_eq_some_iff.1 hq).1
                  rw [List.length_map] at h3
                  rw [HJ2.out (by omega), Addr.add_mid]
                  exact h1 _ u hq
              have r3 : wc.cell? ⟨w.heap.size + 1 + 1, 4, none⟩ = some (.slice (some ⟨g, 0, none⟩) N.length oc') := by rw [HP1.out.2.2.cell]; rfl
              have HHELD : Hid (∀ w', Below wc.heap.size wc w' → w'.cell? ⟨w.heap.size + 1 + 1, 4, none⟩ = some (.slice (some ⟨g, 0, none⟩) N.length oc') ∧ w'.cell? ⟨w.heap.size, 4, none⟩ = some (.slice (some ⟨bn, on, none⟩) t.names.length c') ∧ w'.cell? ⟨bn, on + i, none⟩ = some (.string nm)) := fun w' hb => ⟨cell_on hb r3, cell_on hb w4, cell_on hb n1⟩
              have HFR : Hid (∀ w', Below wc.heap.size wc w' → w'.frozen? ⟨w.heap.size + 1 + 1, 4, none⟩ = false ∧ w.heap.size + 1 + 1 < w'.heap.size) := fun w' hb => ⟨(hb.frozen (p := ⟨w.heap.size + 1 + 1, 4, none⟩) (cell_lt r3)).trans (HP1.out.2.2.frozen 4), Nat.lt_of_lt_of_le (cell_lt r3) hb.size⟩
              refine wp_region_last 19 _ rfl (fun w' => w'.cell? ⟨w.heap.size + 1 + 1, 4, none⟩ = some (.slice (some ⟨g, 0, none⟩) N.length oc') ∧ w'.cell? ⟨w.heap.size, 4, none⟩ = some (.slice (some ⟨bn, on, none⟩) t.names.length c') ∧ w'.cell? ⟨bn, on + i, none⟩ = some (.string nm)) (by kernel_rfl) rfl (by kernel_rfl) ?_ (fun hHeld => ?_)
              · (refine ⟨?_, ?_, ?_⟩ <;> (repeat (first | assumption | refine cell_drS ?_ | refine cell_alS ?_ _)))
              refine wpAnyH_take (i := 1) (oi := { dst := some 70, op := Op.fieldAddr 29 (Operand.tmp 3) 4, type := 0, pos := "l8_patch.go:90", after := #[], guard := none }) (v := ?_) rfl (by kernel_rfl) (by kernel_rfl) (by kernel_rfl) (fun _ _ _ h => h) (Or.inl ⟨by rfl, ?_⟩) (by assumption) ?_
              rotate_left 1
              · (intro w hSw; (try dsimp only at hSw); go_simp)
                all_goals (try with_reducible rfl)
              try simp only [Act.put, List.setIfInBounds_toArray, List.set_cons_zero, List.set_cons_succ]
              refine wpAnyH_take (i := 2) (oi := { dst := some 71, op := Op.load 23 (Operand.tmp 70), type := 23, pos := "l8_patch.go:90", after := #[{ on := 1, ground := Ground.data }], guard := none }) (v := ?_) rfl (by kernel_rfl) (by kernel_rfl) (by kernel_rfl) (fun _ _ _ h => h) (Or.inl ⟨by rfl, ?_⟩) (by assumption) ?_
              rotate_left 1
              · (intro w hSw; (try dsimp only at hSw); go_simp)
                all_goals (try with_reducible rfl)
              try simp only [Act.put, List.setIfInBounds_toArray, List.set_cons_zero, List.set_cons_succ]
              refine wpAnyH_take (i := 3) (oi := { dst := some 72, op := Op.move (Operand.tmp 5), type := 3, pos := "l8_patch.go:90", after := #[], guard := none }) (v := ?_) rfl (by kernel_rfl) (by kernel_rfl) (by kernel_rfl) (fun _ _ _ h => h) (Or.inl ⟨by rfl, ?_⟩) (by assumption) ?_
              rotate_left 1
              · (intro w hSw; (try dsimp only at hSw); go_simp)
                all_goals (try with_reducible rfl)
              try simp only [Act.put, List.setIfInBounds_toArray, List.set_cons_zero, List.set_cons_succ]
              refine wpAnyH_take (i := 4) (oi := { dst := some 73, op := Op.slice 23 (Operand.tmp 71) none (some (Operand.tmp 72)) none, type := 23, pos := "l8_patch.go:90", after := #[{ on := 2, ground := Ground.data }, { on := 3, ground := Ground.data }], guard := none }) (v := ?_) rfl (by kernel_rfl) (by kernel_rfl) (by kernel_rfl) (fun _ _ _ h => h) (Or.inl ⟨by rfl, ?_⟩) (by assumption) ?_
              rotate_left 1
              · (intro w hSw; (try dsimp only at hSw); go_simp)
                all_goals (try with_reducible rfl)
              try simp only [Act.put, List.setIfInBounds_toArray, List.set_cons_zero, List.set_cons_succ]
              refine wpAnyH_take (i := 6) (oi := { dst := some 75, op := Op.fieldAddr 29 (Operand.tmp 1) 4, type := 0, pos := "l8_patch.go:90", after := #[], guard := none }) (v := ?_) rfl (by kernel_rfl) (by kernel_rfl) (by kernel_rfl) (fun _ _ _ h => h) (Or.inl ⟨by rfl, ?_⟩) (by assumption) ?_
              rotate_left 1
              · (intro w hSw; (try dsimp only at hSw); go_simp)
                all_goals (try with_reducible rfl)
              try simp only [Act.put, List.setIfInBounds_toArray, List.set_cons_zero, List.set_cons_succ]
              refine wpAnyH_take (i := 7) (oi := { dst := some 76, op := Op.load 23 (Operand.tmp 75), type := 23, pos := "l8_patch.go:90", after := #[{ on := 6, ground := Ground.data }], guard := none }) (v := ?_) rfl (by kernel_rfl) (by kernel_rfl) (by kernel_rfl) (fun _ _ _ h => h) (Or.inl ⟨by rfl, ?_⟩) (by assumption) ?_
              rotate_left 1
              · (intro w hSw; (try dsimp only at hSw); go_simp)
                all_goals (try with_reducible rfl)
              try simp only [Act.put, List.setIfInBounds_toArray, List.set_cons_zero, List.set_cons_succ]
              refine wpAnyH_take (i := 8) (oi := { dst := some 77, op := Op.move (Operand.tmp 4), type := 3, pos := "l8_patch.go:90", after := #[], guard := none }) (v := ?_) rfl (by kernel_rfl) (by kernel_rfl) (by kernel_rfl) (fun _ _ _ h => h) (Or.inl ⟨by rfl, ?_⟩) (by assumption) ?_
              rotate_left 1
              · (intro w hSw; (try dsimp only at hSw); go_simp)
                all_goals (try with_reducible rfl)
              try simp only [Act.put, List.setIfInBounds_toArray, List.set_cons_zero, List.set_cons_succ]
              refine wpAnyH_take (i := 9) (oi := { dst := some 78, op := Op.indexAddr 23 (Operand.tmp 76) (Operand.tmp 77), type := 0, pos := "l8_patch.go:90", after := #[{ on := 7, ground := Ground.data }, { on := 8, ground := Ground.data }], guard := none }) (v := ?_) rfl (by kernel_rfl) (by kernel_rfl) (by kernel_rfl) (fun _ _ _ h => h) (Or.inl ⟨by rfl, ?_⟩) (by assumption) ?_
              rotate_left 1
              · (intro w hSw; (try dsimp only at hSw); go_simp)
                all_goals (try with_reducible rfl)
              try simp only [Act.put, List.setIfInBounds_toArray, List.set_cons_zero, List.set_cons_succ]
              refine wpAnyH_take (i := 10) (oi := { dst := some 79, op := Op.load 9 (Operand.tmp 78), type := 9, pos := "l8_patch.go:90", after := #[{ on := 9, ground := Ground.data }], guard := none }) (v := ?_) rfl (by kernel_rfl) (by kernel_rfl) (by kernel_rfl) (fun _ _ _ h => h) (Or.inl ⟨by rfl, ?_⟩) (by assumption) ?_
              rotate_left 1
              · (intro w hSw; (try dsimp only at hSw); go_simp)
                all_goals (try with_reducible rfl)
              try simp only [Act.put, List.setIfInBounds_toArray, List.set_cons_zero, List.set_cons_succ]
              refine wpAnyH_take (i := 13) (oi := { dst := some 82, op := Op.fieldAddr 29 (Operand.tmp 3) 4, type := 0, pos := "l8_patch.go:90", after := #[], guard := none }) (v := ?_) rfl (by kernel_rfl) (by kernel_rfl) (by kernel_rfl) (fun _ _ _ h => h) (Or.inl ⟨by rfl, ?_⟩) (by assumption) ?_
              rotate_left 1
              · (intro w hSw; (try dsimp only at hSw); go_simp)
                all_goals (try with_reducible rfl)
              try simp only [Act.put, List.setIfInBounds_toArray, List.set_cons_zero, List.set_cons_succ]
              refine wpAnyH_take (i := 14) (oi := { dst := some 83, op := Op.load 23 (Operand.tmp 82), type := 23, pos := "l8_patch.go:90", after := #[{ on := 13, ground := Ground.data }], guard := none }) (v := ?_) rfl (by kernel_rfl) (by kernel_rfl) (by kernel_rfl) (fun _ _ _ h => h) (Or.inl ⟨by rfl, ?_⟩) (by assumption) ?_
              rotate_left 1
              · (intro w hSw; (try dsimp only at hSw); go_simp)
                all_goals (try with_reducible rfl)
              try simp only [Act.put, List.setIfInBounds_toArray, List.set_cons_zero, List.set_cons_succ]
              refine wpAnyH_take (i := 15) (oi := { dst := some 84, op := Op.move (Operand.tmp 5), type := 3, pos := "l8_patch.go:90", after := #[], guard := none }) (v := ?_) rfl (by kernel_rfl) (by kernel_rfl) (by kernel_rfl) (fun _ _ _ h => h) (Or.inl ⟨by rfl, ?_⟩) (by assumption) ?_
              rotate_left 1
              · (intro w hSw; (try dsimp only at hSw); go_simp)
                all_goals (try with_reducible rfl)
              try simp only [Act.put, List.setIfInBounds_toArray, List.set_cons_zero, List.set_cons_succ]
              refine wpAnyH_take (i := 16) (oi := { dst := some 85, op := Op.slice 23 (Operand.tmp 83) (some (Operand.tmp 84)) none none, type := 23, pos := "l8_patch.go:90", after := #[{ on := 14, ground := Ground.data }, { on := 15, ground := Ground.data }], guard := none }) (v := ?_) rfl (by kernel_rfl) (by kernel_rfl) (by kernel_rfl) (fun _ _ _ h => h) (Or.inl ⟨by rfl, ?_⟩) (by assumption) ?_
              rotate_left 1
              · (intro w hSw; (try dsimp only at hSw); go_simp)
                all_goals (try with_reducible rfl)
              try simp only [Act.put, List.setIfInBounds_toArray, List.set_cons_zero, List.set_cons_succ]
              refine wpAnyH_ready (rs := [0, 11]) (by kernel_rfl) (by simp) ?_
              refine AllReadyH.cons (o := { dst := some 69, op := Op.buildSlice 23 0 #[], type := 23, pos := "l8_patch.go:90", after := #[], guard := none }) rfl (fun K hK => ?_) ?_
              · go_simp
                refine hK.out _ _ ?_ (fun hHeld1 => ?_)
                · try dsimp only
                  (refine ⟨?_, ?_, ?_⟩ <;> (repeat (first | assumption | refine cell_drS ?_ | refine cell_alS ?_ _)))
                clear hK K hHeld
                try simp only [Act.put, List.setIfInBounds_toArray, List.set_cons_zero, List.set_cons_succ]
                refine wpAnyH_ready (rs := [5, 11]) (by kernel_rfl) (by simp) ?_
                refine AllReadyH.cons (o := { dst := some 74, op := Op.call { callee := Callee.builtin Builtin.append, args := #[Operand.tmp 69, Operand.tmp 73], argTypes := #[23, 23] }, type := 23, pos := "l8_patch.go:90", after := #[{ on := 0, ground := Ground.data }, { on := 4, ground := Ground.data }], guard := none }) rfl (fun K hK => ?_) ?_
                · (first | (refine step_append_some (by rfl) _ _ _ (by rfl) wc.heap.size 9 i1 _ 1 16 Try.underlying23 hj0 hy0 hy1 hy2 rfl (by omega) (.slice (some ⟨wc.heap.size + 1, 0, none⟩) 0 0) 0 [] (by rfl) (by exact (made_rev (nm := nm) rfl).1) ⟨g, 0, none⟩ j oc' ((N.map Value.string).take j) (by rfl) HLEN.out.1 (HNEWS.out _ (fun q hq => HREV.out.block q hq)).1 (fun u hu => HONE.out u (List.mem_of_mem_take hu)) (by simp) (by unfold maxLen; have := HWN.out; omega) (by have := HWN.out; omega) HREV.out.size _ rfl ?_; intro g1 cap1 w2 hown2 hgrow2 hat2 hlt2; have HB2 : Hid (Below wc.heap.size wc w2) := below_grown0 HREV.out (Nat.le_refl _) ⟨hgrow2.os, hgrow2.tape, hgrow2.output, hgrow2.size, hgrow2.block⟩ (fun q hq => by have he2 : wc.heap.size + 1 = q := Option.some.inj hq; omega); have HW2 : Hid (w2.ownsRow wc.heap.size 9 1 (.slice (some ⟨g1, 0, none⟩) j cap1) j ((N.map Value.string).take j)) := (by rw [Nat.zero_add, List.nil_append] at hown2; exact hown2); have HS2 : Hid (w2.heap[wc.heap.size]? = some (.cells #[.string nm] 9)) := (hgrow2.block (wc.heap.size) (by simp <;> omega) (fun he => by have he2 : wc.heap.size = wc.heap.size + 1 := Option.some.inj he; omega)).trans (made_rev (nm := nm) rfl).2; obtain ⟨k0, k1, k2⟩ := HHELD.out w2 HB2.out; rw [Nat.zero_add j]; clear hown2 hgrow2 hat2) | (refine step_append_some (by rfl) _ _ _ (by rfl) wc.heap.size 9 i1 _ 1 16 Try.underlying23 hj0 hy0 hy1 hy2 rfl (by omega) (.slice (some ⟨wc.heap.size, 0, none⟩) 0 0) 0 [] (by rfl) (by exact (made_one rfl)) ⟨g, 0, none⟩ j oc' ((N.map Value.string).take j) (by rfl) HLEN.out.1 (HNEWS.out _ (fun q hq => Below.heap_alloc _ _ _ hq)).1 (fun u hu => HONE.out u (List.mem_of_mem_take hu)) (by simp) (by unfold maxLen; have := HWN.out; omega) (by have := HWN.out; omega) HONE0.out.size _ rfl ?_; intro g1 cap1 w2 hown2 hgrow2 hat2 hlt2; have HB2 : Hid (Below wc.heap.size wc w2) := below_grown0 HONE0.out (Nat.le_refl _) ⟨hgrow2.os, hgrow2.tape, hgrow2.output, hgrow2.size, hgrow2.block⟩ (fun q hq => by have he2 : wc.heap.size = q := Option.some.inj hq; omega); have HW2 : Hid (w2.ownsRow wc.heap.size 9 1 (.slice (some ⟨g1, 0, none⟩) j cap1) j ((N.map Value.string).take j)) := (by rw [Nat.zero_add, List.nil_append] at hown2; exact hown2); obtain ⟨k0, k1, k2⟩ := HHELD.out w2 HB2.out; rw [Nat.zero_add j]; clear hown2 hgrow2 hat2) | (refine step_append_some (by rfl) _ _ _ (by rfl) wc.heap.size 9 i1 _ 1 16 Try.underlying23 hj0 hy0 hy1 hy2 rfl (by omega) (.slice (some ⟨wc.heap.size, 0, none⟩) 0 0) 0 [] (by rfl) (by exact (made_two (nm := nm) rfl).1) ⟨g, 0, none⟩ j oc' ((N.map Value.string).take j) (by rfl) HLEN.out.1 (HNEWS.out _ (fun q hq => HTWO.out.block q hq)).1 (fun u hu => HONE.out u (List.mem_of_mem_take hu)) (by simp) (by unfold maxLen; have := HWN.out; omega) (by have := HWN.out; omega) HTWO.out.size _ rfl ?_; intro g1 cap1 w2 hown2 hgrow2 hat2 hlt2; have HB2 : Hid (Below wc.heap.size wc w2) := below_grown0 HTWO.out (Nat.le_refl _) ⟨hgrow2.os, hgrow2.tape, hgrow2.output, hgrow2.size, hgrow2.block⟩ (fun q hq => by have he2 : wc.heap.size = q := Option.some.inj hq; omega); have HW2 : Hid (w2.ownsRow wc.heap.size 9 1 (.slice (some ⟨g1, 0, none⟩) j cap1) j ((N.map Value.string).take j)) := (by rw [Nat.zero_add, List.nil_append] at hown2; exact hown2); have HS2 : Hid (w2.heap[wc.heap.size + 1]? = some (.cells #[.string nm] 9)) := (hgrow2.block (wc.heap.size + 1) (by simp <;> omega) (fun he => by have he2 : wc.heap.size + 1 = wc.heap.size := Option.some.inj he; omega)).trans (made_two (nm := nm) rfl).2; obtain ⟨k0, k1, k2⟩ := HHELD.out w2 HB2.out; rw [Nat.zero_add j]; clear hown2 hgrow2 hat2))
                  refine hK.out _ _ ?_ (fun hHeld2 => ?_)
                  · try dsimp only
                    (refine ⟨?_, ?_, ?_⟩ <;> (repeat (first | assumption | refine cell_drS ?_ | refine cell_alS ?_ _)))
                  clear hK K hHeld1
                  try simp only [Act.put, List.setIfInBounds_toArray, List.set_cons_zero, List.set_cons_succ]
                  refine wpAnyH_ready (rs := [11]) (by kernel_rfl) (by simp) ?_
                  refine AllReadyH.cons (o := { dst := some 80, op := Op.buildSlice 23 1 #[(0, Operand.tmp 79)], type := 23, pos := "l8_patch.go:90", after := #[{ on := 10, ground := Ground.data }], guard := none }) rfl (fun K hK => ?_) ?_
                  · go_simp
                    refine hK.out _ _ ?_ (fun hHeld3 => ?_)
                    · try dsimp only
                      (refine ⟨?_, ?_, ?_⟩ <;> (repeat (first | assumption | refine cell_drS ?_ | refine cell_alS ?_ _)))
                    clear hK K hHeld2
                    try simp only [Act.put, List.setIfInBounds_toArray, List.set_cons_zero, List.set_cons_succ]
                    refine wpAnyH_ready (rs := [12]) (by kernel_rfl) (by simp) ?_
                    refine AllReadyH.cons (o := { dst := some 81, op := Op.call { callee := Callee.builtin Builtin.append, args := #[Operand.tmp 74, Operand.tmp 80], argTypes := #[23, 23] }, type := 23, pos := "l8_patch.go:90", after := #[{ on := 5, ground := Ground.data }, { on := 11, ground := Ground.data }, { on := 5, ground := Ground.chain }], guard := none }) rfl (fun K hK => ?_) ?_
                    · (first | (refine step_append_some (by rfl) _ _ _ (by rfl) wc.heap.size 9 i1 _ 1 16 Try.underlying23 hj0 hy0 hy1 hy2 rfl (by omega) (.slice (some ⟨g1, 0, none⟩) j cap1) j ((N.map Value.string).take j) (by rfl) HW2.out ⟨wc.heap.size + 1, 0, none⟩ 1 1 [.string nm] (by rfl) (by rfl) (World.news_of_block (cs := #[.string nm]) (t := 9) (fr := (0, 0)) HS2.out) (by simp [Value.oneCell']) (by simp) (by unfold maxLen; have := HWN.out; omega) (by have := HWN.out; omega) HB2.out.size _ rfl ?_; intro g2 cap2 w4 hown4 hgrow4 hat4 hlt4; have HB4 : Hid (Below wc.heap.size wc w4) := below_grown0 HB2.out (Nat.le_refl _) ⟨hgrow4.os, hgrow4.tape, hgrow4.output, hgrow4.size, hgrow4.block⟩ (fun q hq => (World.ownsRow.lt HW2.out q hq).1); have HW4 : Hid (w4.ownsRow wc.heap.size 9 1 (.slice (some ⟨g2, 0, none⟩) (j + 1) cap2) (j + 1) ((N.map Value.string).take j ++ [.string nm])) := hown4; obtain ⟨m0, m1, m2⟩ := HHELD.out w4 HB4.out; clear hown4 hgrow4 hat4) | (refine step_append_some (by rfl) _ _ _ (by rfl) wc.heap.size 9 i1 _ 1 16 Try.underlying23 hj0 hy0 hy1 hy2 rfl (by omega) (.slice (some ⟨g1, 0, none⟩) j cap1) j ((N.map Value.string).take j) (by rfl) HW2.out ⟨wc.heap.size, 0, none⟩ 1 1 [.string nm] (by rfl) (by rfl) (World.news_of_block (cs := #[.string nm]) (t := 9) (fr := (0, 0)) HS2.out) (by simp [Value.oneCell']) (by simp) (by unfold maxLen; have := HWN.out; omega) (by have := HWN.out; omega) HB2.out.size _ rfl ?_; intro g2 cap2 w4 hown4 hgrow4 hat4 hlt4; have HB4 : Hid (Below wc.heap.size wc w4) := below_grown0 HB2.out (Nat.le_refl _) ⟨hgrow4.os, hgrow4.tape, hgrow4.output, hgrow4.size, hgrow4.block⟩ (fun q hq => (World.ownsRow.lt HW2.out q hq).1); have HW4 : Hid (w4.ownsRow wc.heap.size 9 1 (.slice (some ⟨g2, 0, none⟩) (j + 1) cap2) (j + 1) ((N.map Value.string).take j ++ [.string nm])) := hown4; obtain ⟨m0, m1, m2⟩ := HHELD.out w4 HB4.out; clear hown4 hgrow4 hat4) | (refine step_append_some (by rfl) _ _ _ (by rfl) wc.heap.size 9 i1 _ 1 16 Try.underlying23 hj0 hy0 hy1 hy2 rfl (by omega) (.slice (some ⟨g1, 0, none⟩) j cap1) j ((N.map Value.string).take j) (by rfl) (World.ownsRow.alloc HW2.out _) ⟨w2.heap.size, 0, none⟩ 1 1 [.string nm] (by rfl) (by rfl) (World.news_of_block (cs := #[.string nm]) (t := 9) (fr := (0, 0)) (heap_alloc_newS w2 _)) (by simp [Value.oneCell']) (by simp) (by unfold maxLen; have := HWN.out; omega) (by have := HWN.out; omega) (HB2.out.alloc HB2.out.size (.cells #[.string nm] 9)).size _ rfl ?_; intro g2 cap2 w4 hown4 hgrow4 hat4 hlt4; have HB4 : Hid (Below wc.heap.size wc w4) := below_grown0 (HB2.out.alloc HB2.out.size (.cells #[.string nm] 9)) (Nat.le_refl _) ⟨hgrow4.os, hgrow4.tape, hgrow4.output, hgrow4.size, hgrow4.block⟩ (fun q hq => (World.ownsRow.lt HW2.out q hq).1); have HW4 : Hid (w4.ownsRow wc.heap.size 9 1 (.slice (some ⟨g2, 0, none⟩) (j + 1) cap2) (j + 1) ((N.map Value.string).take j ++ [.string nm])) := hown4; obtain ⟨m0, m1, m2⟩ := HHELD.out w4 HB4.out; clear hown4 hgrow4 hat4))
                      refine hK.out _ _ ?_ (fun hHeld4 => ?_)
                      · try dsimp only
                        (refine ⟨?_, ?_, ?_⟩ <;> (repeat (first | assumption | refine cell_drS ?_ | refine cell_alS ?_ _)))
                      clear hK K hHeld3
                      try simp only [Act.put, List.setIfInBounds_toArray, List.set_cons_zero, List.set_cons_succ]
                      refine wpAnyH_ready (rs := [17]) (by kernel_rfl) (by simp) ?_
                      refine AllReadyH.cons (o := { dst := some 86, op := Op.call { callee := Callee.builtin Builtin.append, args := #[Operand.tmp 81, Operand.tmp 85], argTypes := #[23, 23] }, type := 23, pos := "l8_patch.go:90", after := #[{ on := 12, ground := Ground.data }, { on := 16, ground := Ground.data }, { on := 12, ground := Ground.chain }], guard := none }) rfl (fun K hK => ?_) ?_
                      · (refine step_append_some (by rfl) _ _ _ (by rfl) wc.heap.size 9 i1 _ 1 16 Try.underlying23 hj0 hy0 hy1 hy2 rfl (by omega) (.slice (some ⟨g2, 0, none⟩) (j + 1) cap2) (j + 1) ((N.map Value.string).take j ++ [.string nm]) (by rfl) HW4.out ⟨g, jo, none⟩ (N.length - j) (oc' - j) ((N.map Value.string).drop j) (by first | rfl | exact HJO.out) HLEN.out.2 (HNEWS.out _ HB4.out.block).2 (fun u hu => HONE.out u (List.mem_of_mem_drop hu)) (by simp) (by unfold maxLen; have := HWN.out; have := HNl.out; omega) (by have := HWN.out; have := HNl.out; omega) HB4.out.size _ rfl ?_; intro g4 cap4 w5 hown5 hgrow5 hat5 hlt5; have HB5 : Hid (Below wc.heap.size wc w5) := below_grown0 HB4.out (Nat.le_refl _) ⟨hgrow5.os, hgrow5.tape, hgrow5.output, hgrow5.size, hgrow5.block⟩ (fun q hq => (World.ownsRow.lt HW4.out q hq).1); have HW5 : Hid (w5.ownsRow wc.heap.size 9 1 (.slice (some ⟨g4, 0, none⟩) (j + 1 + (N.length - j)) cap4) (j + 1 + (N.length - j)) ((N.map Value.string).take j ++ [.string nm] ++ (N.map Value.string).drop j)) := hown5; obtain ⟨x0, x1, x2⟩ := HHELD.out w5 HB5.out; obtain ⟨hfz, hszz⟩ := HFR.out w5 HB5.out; clear hown5 hgrow5 hat5)
                        refine hK.out _ _ ?_ (fun hHeld5 => ?_)
                        · try dsimp only
                          (refine ⟨?_, ?_, ?_⟩ <;> (repeat (first | assumption | refine cell_drS ?_ | refine cell_alS ?_ _)))
                        clear hK K hHeld4
                        try simp only [Act.put, List.setIfInBounds_toArray, List.set_cons_zero, List.set_cons_succ]
                        refine wpAnyH_take (i := 18) (oi := { dst := some 87, op := Op.fieldAddr 29 (Operand.tmp 3) 4, type := 0, pos := "l8_patch.go:90", after := #[{ on := 0, ground := Ground.phase }, { on := 1, ground := Ground.phase }, { on := 2, ground := Ground.phase }, { on := 3, ground := Ground.phase }, { on := 4, ground := Ground.phase }, { on := 5, ground := Ground.phase }, { on := 6, ground := Ground.phase }, { on := 7, ground := Ground.phase }, { on := 8, ground := Ground.phase }, { on := 9, ground := Ground.phase }, { on := 10, ground := Ground.phase }, { on := 11, ground := Ground.phase }, { on := 12, ground := Ground.phase }, { on := 13, ground := Ground.phase }, { on := 14, ground := Ground.phase }, { on := 15, ground := Ground.phase }, { on := 16, ground := Ground.phase }, { on := 17, ground := Ground.phase }], guard := none }) (v := ?_) rfl (by kernel_rfl) (by kernel_rfl) (by kernel_rfl) (fun _ _ _ h => h) (Or.inl ⟨by rfl, ?_⟩) (by assumption) ?_
                        rotate_left 1
                        · (intro w hSw; (try dsimp only at hSw); go_simp)
                          all_goals (try with_reducible rfl)
                        try simp only [Act.put, List.setIfInBounds_toArray, List.set_cons_zero, List.set_cons_succ]
                        refine wpAnyH_done (by kernel_rfl) ?_ _
                        rw [HJO.out]
                        clear HJO HJ2 HLEN HNEWS hNoc hjNi hjN
                        intro KK hKK
                        go_simp
                        refine hKK _ _ ?_
                        clear hKK KK
                        go_wp2_with fail
                        have hNl3 : j + 1 + (N.length - j) = N.length + 1 := by have := HNl.out; omega
                        have h1 := out_metN (nm := nm) (j := j) (v' := .slice (some ⟨g4, 0, none⟩) (j + 1 + (N.length - j)) cap4) (tot := j + 1 + (N.length - j)) HOL1.out HP1.out HBW1.out HSZ1.out HB5.out HW5.out hNl3 (wx := w5.setCell ⟨w.heap.size + 1 + 1, 4, none⟩ (.slice (some ⟨g4, 0, none⟩) (j + 1 + (N.length - j)) cap4)) rfl ⟨rfl, rfl, rfl⟩
                        have hll : (insAt N j nm).length = j + 1 + (N.length - j) := by rw [insAt_len]; omega
                        rw [← hll] at h1 ⊢
                        exact ⟨⟨i + 1, insAt L j si, insAt N j nm, some ⟨g3, 0, none⟩, cap3, some ⟨g4, 0, none⟩, cap4, xs', hlt, by go_num, HLI1, HDS2, h1.1, h1.2.1, h1.2.2.1.1, h1.2.2.1.2.1, h1.2.2.1.2.2, h1.2.2.2.1, h1.2.2.2.2, fun h => absurd h (Nat.succ_ne_zero i)⟩, by simp [intOf]; omega⟩
                      exact AllReadyH.nil
                    exact AllReadyH.nil
                  exact AllReadyH.nil
                refine AllReadyH.cons (o := { dst := some 80, op := Op.buildSlice 23 1 #[(0, Operand.tmp 79)], type := 23, pos := "l8_patch.go:90", after := #[{ on := 10, ground := Ground.data }], guard := none }) rfl (fun K hK => ?_) ?_
                · go_simp
                  refine hK.out _ _ ?_ (fun hHeld6 => ?_)
                  · try dsimp only
                    (refine ⟨?_, ?_, ?_⟩ <;> (repeat (first | assumption | refine cell_drS ?_ | refine cell_alS ?_ _)))
                  clear hK K hHeld1
                  try simp only [Act.put, List.setIfInBounds_toArray, List.set_cons_zero, List.set_cons_succ]
                  refine wpAnyH_ready (rs := [5]) (by kernel_rfl) (by simp) ?_
                  refine AllReadyH.cons (o := { dst := some 74, op := Op.call { callee := Callee.builtin Builtin.append, args := #[Operand.tmp 69, Operand.tmp 73], argTypes := #[23, 23] }, type := 23, pos := "l8_patch.go:90", after := #[{ on := 0, ground := Ground.data }, { on := 4, ground := Ground.data }], guard := none }) rfl (fun K hK => ?_) ?_
                  · (first | (refine step_append_some (by rfl) _ _ _ (by rfl) wc.heap.size 9 i1 _ 1 16 Try.underlying23 hj0 hy0 hy1 hy2 rfl (by omega) (.slice (some ⟨wc.heap.size + 1, 0, none⟩) 0 0) 0 [] (by rfl) (by exact (made_rev (nm := nm) rfl).1) ⟨g, 0, none⟩ j oc' ((N.map Value.string).take j) (by rfl) HLEN.out.1 (HNEWS.out _ (fun q hq => HREV.out.block q hq)).1 (fun u hu => HONE.out u (List.mem_of_mem_take hu)) (by simp) (by unfold maxLen; have := HWN.out; omega) (by have := HWN.out; omega) HREV.out.size _ rfl ?_; intro g1 cap1 w2 hown2 hgrow2 hat2 hlt2; have HB2 : Hid (Below wc.heap.size wc w2) := below_grown0 HREV.out (Nat.le_refl _) ⟨hgrow2.os, hgrow2.tape, hgrow2.output, hgrow2.size, hgrow2.block⟩ (fun q hq => by have he2 : wc.heap.size + 1 = q := Option.some.inj hq; omega); have HW2 : Hid (w2.ownsRow wc.heap.size 9 1 (.slice (some ⟨g1, 0, none⟩) j cap1) j ((N.map Value.string).take j)) := (by rw [Nat.zero_add, List.nil_append] at hown2; exact hown2); have HS2 : Hid (w2.heap[wc.heap.size]? = some (.cells #[.string nm] 9)) := (hgrow2.block (wc.heap.size) (by simp <;> omega) (fun he => by have he2 : wc.heap.size = wc.heap.size + 1 := Option.some.inj he; omega)).trans (made_rev (nm := nm) rfl).2; obtain ⟨k0, k1, k2⟩ := HHELD.out w2 HB2.out; rw [Nat.zero_add j]; clear hown2 hgrow2 hat2) | (refine step_append_some (by rfl) _ _ _ (by rfl) wc.heap.size 9 i1 _ 1 16 Try.underlying23 hj0 hy0 hy1 hy2 rfl (by omega) (.slice (some ⟨wc.heap.size, 0, none⟩) 0 0) 0 [] (by rfl) (by exact (made_one rfl)) ⟨g, 0, none⟩ j oc' ((N.map Value.string).take j) (by rfl) HLEN.out.1 (HNEWS.out _ (fun q hq => Below.heap_alloc _ _ _ hq)).1 (fun u hu => HONE.out u (List.mem_of_mem_take hu)) (by simp) (by unfold maxLen; have := HWN.out; omega) (by have := HWN.out; omega) HONE0.out.size _ rfl ?_; intro g1 cap1 w2 hown2 hgrow2 hat2 hlt2; have HB2 : Hid (Below wc.heap.size wc w2) := below_grown0 HONE0.out (Nat.le_refl _) ⟨hgrow2.os, hgrow2.tape, hgrow2.output, hgrow2.size, hgrow2.block⟩ (fun q hq => by have he2 : wc.heap.size = q := Option.some.inj hq; omega); have HW2 : Hid (w2.ownsRow wc.heap.size 9 1 (.slice (some ⟨g1, 0, none⟩) j cap1) j ((N.map Value.string).take j)) := (by rw [Nat.zero_add, List.nil_append] at hown2; exact hown2); obtain ⟨k0, k1, k2⟩ := HHELD.out w2 HB2.out; rw [Nat.zero_add j]; clear hown2 hgrow2 hat2) | (refine step_append_some (by rfl) _ _ _ (by rfl) wc.heap.size 9 i1 _ 1 16 Try.underlying23 hj0 hy0 hy1 hy2 rfl (by omega) (.slice (some ⟨wc.heap.size, 0, none⟩) 0 0) 0 [] (by rfl) (by exact (made_two (nm := nm) rfl).1) ⟨g, 0, none⟩ j oc' ((N.map Value.string).take j) (by rfl) HLEN.out.1 (HNEWS.out _ (fun q hq => HTWO.out.block q hq)).1 (fun u hu => HONE.out u (List.mem_of_mem_take hu)) (by simp) (by unfold maxLen; have := HWN.out; omega) (by have := HWN.out; omega) HTWO.out.size _ rfl ?_; intro g1 cap1 w2 hown2 hgrow2 hat2 hlt2; have HB2 : Hid (Below wc.heap.size wc w2) := below_grown0 HTWO.out (Nat.le_refl _) ⟨hgrow2.os, hgrow2.tape, hgrow2.output, hgrow2.size, hgrow2.block⟩ (fun q hq => by have he2 : wc.heap.size = q := Option.some.inj hq; omega); have HW2 : Hid (w2.ownsRow wc.heap.size 9 1 (.slice (some ⟨g1, 0, none⟩) j cap1) j ((N.map Value.string).take j)) := (by rw [Nat.zero_add, List.nil_append] at hown2; exact hown2); have HS2 : Hid (w2.heap[wc.heap.size + 1]? = some (.cells #[.string nm] 9)) := (hgrow2.block (wc.heap.size + 1) (by simp <;> omega) (fun he => by have he2 : wc.heap.size + 1 = wc.heap.size := Option.some.inj he; omega)).trans (made_two (nm := nm) rfl).2; obtain ⟨k0, k1, k2⟩ := HHELD.out w2 HB2.out; rw [Nat.zero_add j]; clear hown2 hgrow2 hat2))
                    refine hK.out _ _ ?_ (fun hHeld7 => ?_)
                    · try dsimp only
                      (refine ⟨?_, ?_, ?_⟩ <;> (repeat (first | assumption | refine cell_drS ?_ | refine cell_alS ?_ _)))
                    clear hK K hHeld6
                    try simp only [Act.put, List.setIfInBounds_toArray, List.set_cons_zero, List.set_cons_succ]
                    refine wpAnyH_ready (rs := [12]) (by kernel_rfl) (by simp) ?_
                    refine AllReadyH.cons (o := { dst := some 81, op := Op.call { callee := Callee.builtin Builtin.append, args := #[Operand.tmp 74, Operand.tmp 80], argTypes := #[23, 23] }, type := 23, pos := "l8_patch.go:90", after := #[{ on := 5, ground := Ground.data }, { on := 11, ground := Ground.data }, { on := 5, ground := Ground.chain }], guard := none }) rfl (fun K hK => ?_) ?_
                    · (first | (refine step_append_some (by rfl) _ _ _ (by rfl) wc.heap.size 9 i1 _ 1 16 Try.underlying23 hj0 hy0 hy1 hy2 rfl (by omega) (.slice (some ⟨g1, 0, none⟩) j cap1) j ((N.map Value.string).take j) (by rfl) HW2.out ⟨wc.heap.size + 1, 0, none⟩ 1 1 [.string nm] (by rfl) (by rfl) (World.news_of_block (cs := #[.string nm]) (t := 9) (fr := (0, 0)) HS2.out) (by simp [Value.oneCell']) (by simp) (by unfold maxLen; have := HWN.out; omega) (by have := HWN.out; omega) HB2.out.size _ rfl ?_; intro g2 cap2 w4 hown4 hgrow4 hat4 hlt4; have HB4 : Hid (Below wc.heap.size wc w4) := below_grown0 HB2.out (Nat.le_refl _) ⟨hgrow4.os, hgrow4.tape, hgrow4.output, hgrow4.size, hgrow4.block⟩ (fun q hq => (World.ownsRow.lt HW2.out q hq).1); have HW4 : Hid (w4.ownsRow wc.heap.size 9 1 (.slice (some ⟨g2, 0, none⟩) (j + 1) cap2) (j + 1) ((N.map Value.string).take j ++ [.string nm])) := hown4; obtain ⟨m0, m1, m2⟩ := HHELD.out w4 HB4.out; clear hown4 hgrow4 hat4) | (refine step_append_some (by rfl) _ _ _ (by rfl) wc.heap.size 9 i1 _ 1 16 Try.underlying23 hj0 hy0 hy1 hy2 rfl (by omega) (.slice (some ⟨g1, 0, none⟩) j cap1) j ((N.map Value.string).take j) (by rfl) HW2.out ⟨wc.heap.size, 0, none⟩ 1 1 [.string nm] (by rfl) (by rfl) (World.news_of_block (cs := #[.string nm]) (t := 9) (fr := (0, 0)) HS2.out) (by simp [Value.oneCell']) (by simp) (by unfold maxLen; have := HWN.out; omega) (by have := HWN.out; omega) HB2.out.size _ rfl ?_; intro g2 cap2 w4 hown4 hgrow4 hat4 hlt4; have HB4 : Hid (Below wc.heap.size wc w4) := below_grown0 HB2.out (Nat.le_refl _) ⟨hgrow4.os, hgrow4.tape, hgrow4.output, hgrow4.size, hgrow4.block⟩ (fun q hq => (World.ownsRow.lt HW2.out q hq).1); have HW4 : Hid (w4.ownsRow wc.heap.size 9 1 (.slice (some ⟨g2, 0, none⟩) (j + 1) cap2) (j + 1) ((N.map Value.string).take j ++ [.string nm])) := hown4; obtain ⟨m0, m1, m2⟩ := HHELD.out w4 HB4.out; clear hown4 hgrow4 hat4) | (refine step_append_some (by rfl) _ _ _ (by rfl) wc.heap.size 9 i1 _ 1 16 Try.underlying23 hj0 hy0 hy1 hy2 rfl (by omega) (.slice (some ⟨g1, 0, none⟩) j cap1) j ((N.map Value.string).take j) (by rfl) (World.ownsRow.alloc HW2.out _) ⟨w2.heap.size, 0, none⟩ 1 1 [.string nm] (by rfl) (by rfl) (World.news_of_block (cs := #[.string nm]) (t := 9) (fr := (0, 0)) (heap_alloc_newS w2 _)) (by simp [Value.oneCell']) (by simp) (by unfold maxLen; have := HWN.out; omega) (by have := HWN.out; omega) (HB2.out.alloc HB2.out.size (.cells #[.string nm] 9)).size _ rfl ?_; intro g2 cap2 w4 hown4 hgrow4 hat4 hlt4; have HB4 : Hid (Below wc.heap.size wc w4) := below_grown0 (HB2.out.alloc HB2.out.size (.cells #[.string nm] 9)) (Nat.le_refl _) ⟨hgrow4.os, hgrow4.tape, hgrow4.output, hgrow4.size, hgrow4.block⟩ (fun q hq => (World.ownsRow.lt HW2.out q hq).1); have HW4 : Hid (w4.ownsRow wc.heap.size 9 1 (.slice (some ⟨g2, 0, none⟩) (j + 1) cap2) (j + 1) ((N.map Value.string).take j ++ [.string nm])) := hown4; obtain ⟨m0, m1, m2⟩ := HHELD.out w4 HB4.out; clear hown4 hgrow4 hat4))
                      refine hK.out _ _ ?_ (fun hHeld8 => ?_)
                      · try dsimp only
                        (refine ⟨?_, ?_, ?_⟩ <;> (repeat (first | assumption | refine cell_drS ?_ | refine cell_alS ?_ _)))
                      clear hK K hHeld7
                      try simp only [Act.put, List.setIfInBounds_toArray, List.set_cons_zero, List.set_cons_succ]
                      refine wpAnyH_ready (rs := [17]) (by kernel_rfl) (by simp) ?_
                      refine AllReadyH.cons (o := { dst := some 86, op := Op.call { callee := Callee.builtin Builtin.append, args := #[Operand.tmp 81, Operand.tmp 85], argTypes := #[23, 23] }, type := 23, pos := "l8_patch.go:90", after := #[{ on := 12, ground := Ground.data }, { on := 16, ground := Ground.data }, { on := 12, ground := Ground.chain }], guard := none }) rfl (fun K hK => ?_) ?_
                      · (refine step_append_some (by rfl) _ _ _ (by rfl) wc.heap.size 9 i1 _ 1 16 Try.underlying23 hj0 hy0 hy1 hy2 rfl (by omega) (.slice (some ⟨g2, 0, none⟩) (j + 1) cap2) (j + 1) ((N.map Value.string).take j ++ [.string nm]) (by rfl) HW4.out ⟨g, jo, none⟩ (N.length - j) (oc' - j) ((N.map Value.string).drop j) (by first | rfl | exact HJO.out) HLEN.out.2 (HNEWS.out _ HB4.out.block).2 (fun u hu => HONE.out u (List.mem_of_mem_drop hu)) (by simp) (by unfold maxLen; have := HWN.out; have := HNl.out; omega) (by have := HWN.out; have := HNl.out; omega) HB4.out.size _ rfl ?_; intro g4 cap4 w5 hown5 hgrow5 hat5 hlt5; have HB5 : Hid (Below wc.heap.size wc w5) := below_grown0 HB4.out (Nat.le_refl _) ⟨hgrow5.os, hgrow5.tape, hgrow5.output, hgrow5.size, hgrow5.block⟩ (fun q hq => (World.ownsRow.lt HW4.out q hq).1); have HW5 : Hid (w5.ownsRow wc.heap.size 9 1 (.slice (some ⟨g4, 0, none⟩) (j + 1 + (N.length - j)) cap4) (j + 1 + (N.length - j)) ((N.map Value.string).take j ++ [.string nm] ++ (N.map Value.string).drop j)) := hown5; obtain ⟨x0, x1, x2⟩ := HHELD.out w5 HB5.out; obtain ⟨hfz, hszz⟩ := HFR.out w5 HB5.out; clear hown5 hgrow5 hat5)
                        refine hK.out _ _ ?_ (fun hHeld9 => ?_)
                        · try dsimp only
                          (refine ⟨?_, ?_, ?_⟩ <;> (repeat (first | assumption | refine cell_drS ?_ | refine cell_alS ?_ _)))
                        clear hK K hHeld8
                        try simp only [Act.put, List.setIfInBounds_toArray, List.set_cons_zero, List.set_cons_succ]
                        refine wpAnyH_take (i := 18) (oi := { dst := some 87, op := Op.fieldAddr 29 (Operand.tmp 3) 4, type := 0, pos := "l8_patch.go:90", after := #[{ on := 0, ground := Ground.phase }, { on := 1, ground := Ground.phase }, { on := 2, ground := Ground.phase }, { on := 3, ground := Ground.phase }, { on := 4, ground := Ground.phase }, { on := 5, ground := Ground.phase }, { on := 6, ground := Ground.phase }, { on := 7, ground := Ground.phase }, { on := 8, ground := Ground.phase }, { on := 9, ground := Ground.phase }, { on := 10, ground := Ground.phase }, { on := 11, ground := Ground.phase }, { on := 12, ground := Ground.phase }, { on := 13, ground := Ground.phase }, { on := 14, ground := Ground.phase }, { on := 15, ground := Ground.phase }, { on := 16, ground := Ground.phase }, { on := 17, ground := Ground.phase }], guard := none }) (v := ?_) rfl (by kernel_rfl) (by kernel_rfl) (by kernel_rfl) (fun _ _ _ h => h) (Or.inl ⟨by rfl, ?_⟩) (by assumption) ?_
                        rotate_left 1
                        · (intro w hSw; (try dsimp only at hSw); go_simp)
                          all_goals (try with_reducible rfl)
                        try simp only [Act.put, List.setIfInBounds_toArray, List.set_cons_zero, List.set_cons_succ]
                        refine wpAnyH_done (by kernel_rfl) ?_ _
                        rw [HJO.out]
                        clear HJO HJ2 HLEN HNEWS hNoc hjNi hjN
                        intro KK hKK
                        go_simp
                        refine hKK _ _ ?_
                        clear hKK KK
                        go_wp2_with fail
                        have hNl3 : j + 1 + (N.length - j) = N.length + 1 := by have := HNl.out; omega
                        have h1 := out_metN (nm := nm) (j := j) (v' := .slice (some ⟨g4, 0, none⟩) (j + 1 + (N.length - j)) cap4) (tot := j + 1 + (N.length - j)) HOL1.out HP1.out HBW1.out HSZ1.out HB5.out HW5.out hNl3 (wx := w5.setCell ⟨w.heap.size + 1 + 1, 4, none⟩ (.slice (some ⟨g4, 0, none⟩) (j + 1 + (N.length - j)) cap4)) rfl ⟨rfl, rfl, rfl⟩
                        have hll : (insAt N j nm).length = j + 1 + (N.length - j) := by rw [insAt_len]; omega
                        rw [← hll] at h1 ⊢
                        exact ⟨⟨i + 1, insAt L j si, insAt N j nm, some ⟨g3, 0, none⟩, cap3, some ⟨g4, 0, none⟩, cap4, xs', hlt, by go_num, HLI1, HDS2, h1.1, h1.2.1, h1.2.2.1.1, h1.2.2.1.2.1, h1.2.2.1.2.2, h1.2.2.2.1, h1.2.2.2.2, fun h => absurd h (Nat.succ_ne_zero i)⟩, by simp [intOf]; omega⟩
                      exact AllReadyH.nil
                    exact AllReadyH.nil
                  exact AllReadyH.nil
                exact AllReadyH.nil
              refine AllReadyH.cons (o := { dst := some 80, op := Op.buildSlice 23 1 #[(0, Operand.tmp 79)], type := 23, pos := "l8_patch.go:90", after := #[{ on := 10, ground := Ground.data }], guard := none }) rfl (fun K hK => ?_) ?_
              · go_simp
                refine hK.out _ _ ?_ (fun hHeld10 => ?_)
                · try dsimp only
                  (refine ⟨?_, ?_, ?_⟩ <;> (repeat (first | assumption | refine cell_drS ?_ | refine cell_alS ?_ _)))
                clear hK K hHeld
                try simp only [Act.put, List.setIfInBounds_toArray, List.set_cons_zero, List.set_cons_succ]
                refine wpAnyH_ready (rs := [0]) (by kernel_rfl) (by simp) ?_
                refine AllReadyH.cons (o := { dst := some 69, op := Op.buildSlice 23 0 #[], type := 23, pos := "l8_patch.go:90", after := #[], guard := none }) rfl (fun K hK => ?_) ?_
                · go_simp
                  refine hK.out _ _ ?_ (fun hHeld11 => ?_)
                  · try dsimp only
                    (refine ⟨?_, ?_, ?_⟩ <;> (repeat (first | assumption | refine cell_drS ?_ | refine cell_alS ?_ _)))
                  clear hK K hHeld10
                  try simp only [Act.put, List.setIfInBounds_toArray, List.set_cons_zero, List.set_cons_succ]
                  refine wpAnyH_ready (rs := [5]) (by kernel_rfl) (by simp) ?_
                  refine AllReadyH.cons (o := { dst := some 74, op := Op.call { callee := Callee.builtin Builtin.append, args := #[Operand.tmp 69, Operand.tmp 73], argTypes := #[23, 23] }, type := 23, pos := "l8_patch.go:90", after := #[{ on := 0, ground := Ground.data }, { on := 4, ground := Ground.data }], guard := none }) rfl (fun K hK => ?_) ?_
                  · (first | (refine step_append_some (by rfl) _ _ _ (by rfl) wc.heap.size 9 i1 _ 1 16 Try.underlying23 hj0 hy0 hy1 hy2 rfl (by omega) (.slice (some ⟨wc.heap.size + 1, 0, none⟩) 0 0) 0 [] (by rfl) (by exact (made_rev (nm := nm) rfl).1) ⟨g, 0, none⟩ j oc' ((N.map Value.string).take j) (by rfl) HLEN.out.1 (HNEWS.out _ (fun q hq => HREV.out.block q hq)).1 (fun u hu => HONE.out u (List.mem_of_mem_take hu)) (by simp) (by unfold maxLen; have := HWN.out; omega) (by have := HWN.out; omega) HREV.out.size _ rfl ?_; intro g1 cap1 w2 hown2 hgrow2 hat2 hlt2; have HB2 : Hid (Below wc.heap.size wc w2) := below_grown0 HREV.out (Nat.le_refl _) ⟨hgrow2.os, hgrow2.tape, hgrow2.output, hgrow2.size, hgrow2.block⟩ (fun q hq => by have he2 : wc.heap.size + 1 = q := Option.some.inj hq; omega); have HW2 : Hid (w2.ownsRow wc.heap.size 9 1 (.slice (some ⟨g1, 0, none⟩) j cap1) j ((N.map Value.string).take j)) := (by rw [Nat.zero_add, List.nil_append] at hown2; exact hown2); have HS2 : Hid (w2.heap[wc.heap.size]? = some (.cells #[.string nm] 9)) := (hgrow2.block (wc.heap.size) (by simp <;> omega) (fun he => by have he2 : wc.heap.size = wc.heap.size + 1 := Option.some.inj he; omega)).trans (made_rev (nm := nm) rfl).2; obtain ⟨k0, k1, k2⟩ := HHELD.out w2 HB2.out; rw [Nat.zero_add j]; clear hown2 hgrow2 hat2) | (refine step_append_some (by rfl) _ _ _ (by rfl) wc.heap.size 9 i1 _ 1 16 Try.underlying23 hj0 hy0 hy1 hy2 rfl (by omega) (.slice (some ⟨wc.heap.size, 0, none⟩) 0 0) 0 [] (by rfl) (by exact (made_one rfl)) ⟨g, 0, none⟩ j oc' ((N.map Value.string).take j) (by rfl) HLEN.out.1 (HNEWS.out _ (fun q hq => Below.heap_alloc _ _ _ hq)).1 (fun u hu => HONE.out u (List.mem_of_mem_take hu)) (by simp) (by unfold maxLen; have := HWN.out; omega) (by have := HWN.out; omega) HONE0.out.size _ rfl ?_; intro g1 cap1 w2 hown2 hgrow2 hat2 hlt2; have HB2 : Hid (Below wc.heap.size wc w2) := below_grown0 HONE0.out (Nat.le_refl _) ⟨hgrow2.os, hgrow2.tape, hgrow2.output, hgrow2.size, hgrow2.block⟩ (fun q hq => by have he2 : wc.heap.size = q := Option.some.inj hq; omega); have HW2 : Hid (w2.ownsRow wc.heap.size 9 1 (.slice (some ⟨g1, 0, none⟩) j cap1) j ((N.map Value.string).take j)) := (by rw [Nat.zero_add, List.nil_append] at hown2; exact hown2); obtain ⟨k0, k1, k2⟩ := HHELD.out w2 HB2.out; rw [Nat.zero_add j]; clear hown2 hgrow2 hat2) | (refine step_append_some (by rfl) _ _ _ (by rfl) wc.heap.size 9 i1 _ 1 16 Try.underlying23 hj0 hy0 hy1 hy2 rfl (by omega) (.slice (some ⟨wc.heap.size, 0, none⟩) 0 0) 0 [] (by rfl) (by exact (made_two (nm := nm) rfl).1) ⟨g, 0, none⟩ j oc' ((N.map Value.string).take j) (by rfl) HLEN.out.1 (HNEWS.out _ (fun q hq => HTWO.out.block q hq)).1 (fun u hu => HONE.out u (List.mem_of_mem_take hu)) (by simp) (by unfold maxLen; have := HWN.out; omega) (by have := HWN.out; omega) HTWO.out.size _ rfl ?_; intro g1 cap1 w2 hown2 hgrow2 hat2 hlt2; have HB2 : Hid (Below wc.heap.size wc w2) := below_grown0 HTWO.out (Nat.le_refl _) ⟨hgrow2.os, hgrow2.tape, hgrow2.output, hgrow2.size, hgrow2.block⟩ (fun q hq => by have he2 : wc.heap.size = q := Option.some.inj hq; omega); have HW2 : Hid (w2.ownsRow wc.heap.size 9 1 (.slice (some ⟨g1, 0, none⟩) j cap1) j ((N.map Value.string).take j)) := (by rw [Nat.zero_add, List.nil_append] at hown2; exact hown2); have HS2 : Hid (w2.heap[wc.heap.size + 1]? = some (.cells #[.string nm] 9)) := (hgrow2.block (wc.heap.size + 1) (by simp <;> omega) (fun he => by have he2 : wc.heap.size + 1 = wc.heap.size := Option.some.inj he; omega)).trans (made_two (nm := nm) rfl).2; obtain ⟨k0, k1, k2⟩ := HHELD.out w2 HB2.out; rw [Nat.zero_add j]; clear hown2 hgrow2 hat2))
                    refine hK.out _ _ ?_ (fun hHeld12 => ?_)
                    · try dsimp only
                      (refine ⟨?_, ?_, ?_⟩ <;> (repeat (first | assumption | refine cell_drS ?_ | refine cell_alS ?_ _)))
                    clear hK K hHeld11
                    try simp only [Act.put, List.setIfInBounds_toArray, List.set_cons_zero, List.set_cons_succ]
                    refine wpAnyH_ready (rs := [12]) (by kernel_rfl) (by simp) ?_
                    refine AllReadyH.cons (o := { dst := some 81, op := Op.call { callee := Callee.builtin Builtin.append, args := #[Operand.tmp 74, Operand.tmp 80], argTypes := #[23, 23] }, type := 23, pos := "l8_patch.go:90", after := #[{ on := 5, ground := Ground.data }, { on := 11, ground := Ground.data }, { on := 5, ground := Ground.chain }], guard := none }) rfl (fun K hK => ?_) ?_
                    · (first | (refine step_append_some (by rfl) _ _ _ (by rfl) wc.heap.size 9 i1 _ 1 16 Try.underlying23 hj0 hy0 hy1 hy2 rfl (by omega) (.slice (some ⟨g1, 0, none⟩) j cap1) j ((N.map Value.string).take j) (by rfl) HW2.out ⟨wc.heap.size + 1, 0, none⟩ 1 1 [.string nm] (by rfl) (by rfl) (World.news_of_block (cs := #[.string nm]) (t := 9) (fr := (0, 0)) HS2.out) (by simp [Value.oneCell']) (by simp) (by unfold maxLen; have := HWN.out; omega) (by have := HWN.out; omega) HB2.out.size _ rfl ?_; intro g2 cap2 w4 hown4 hgrow4 hat4 hlt4; have HB4 : Hid (Below wc.heap.size wc w4) := below_grown0 HB2.out (Nat.le_refl _) ⟨hgrow4.os, hgrow4.tape, hgrow4.output, hgrow4.size, hgrow4.block⟩ (fun q hq => (World.ownsRow.lt HW2.out q hq).1); have HW4 : Hid (w4.ownsRow wc.heap.size 9 1 (.slice (some ⟨g2, 0, none⟩) (j + 1) cap2) (j + 1) ((N.map Value.string).take j ++ [.string nm])) := hown4; obtain ⟨m0, m1, m2⟩ := HHELD.out w4 HB4.out; clear hown4 hgrow4 hat4) | (refine step_append_some (by rfl) _ _ _ (by rfl) wc.heap.size 9 i1 _ 1 16 Try.underlying23 hj0 hy0 hy1 hy2 rfl (by omega) (.slice (some ⟨g1, 0, none⟩) j cap1) j ((N.map Value.string).take j) (by rfl) HW2.out ⟨wc.heap.size, 0, none⟩ 1 1 [.string nm] (by rfl) (by rfl) (World.news_of_block (cs := #[.string nm]) (t := 9) (fr := (0, 0)) HS2.out) (by simp [Value.oneCell']) (by simp) (by unfold maxLen; have := HWN.out; omega) (by have := HWN.out; omega) HB2.out.size _ rfl ?_; intro g2 cap2 w4 hown4 hgrow4 hat4 hlt4; have HB4 : Hid (Below wc.heap.size wc w4) := below_grown0 HB2.out (Nat.le_refl _) ⟨hgrow4.os, hgrow4.tape, hgrow4.output, hgrow4.size, hgrow4.block⟩ (fun q hq => (World.ownsRow.lt HW2.out q hq).1); have HW4 : Hid (w4.ownsRow wc.heap.size 9 1 (.slice (some ⟨g2, 0, none⟩) (j + 1) cap2) (j + 1) ((N.map Value.string).take j ++ [.string nm])) := hown4; obtain ⟨m0, m1, m2⟩ := HHELD.out w4 HB4.out; clear hown4 hgrow4 hat4) | (refine step_append_some (by rfl) _ _ _ (by rfl) wc.heap.size 9 i1 _ 1 16 Try.underlying23 hj0 hy0 hy1 hy2 rfl (by omega) (.slice (some ⟨g1, 0, none⟩) j cap1) j ((N.map Value.string).take j) (by rfl) (World.ownsRow.alloc HW2.out _) ⟨w2.heap.size, 0, none⟩ 1 1 [.string nm] (by rfl) (by rfl) (World.news_of_block (cs := #[.string nm]) (t := 9) (fr := (0, 0)) (heap_alloc_newS w2 _)) (by simp [Value.oneCell']) (by simp) (by unfold maxLen; have := HWN.out; omega) (by have := HWN.out; omega) (HB2.out.alloc HB2.out.size (.cells #[.string nm] 9)).size _ rfl ?_; intro g2 cap2 w4 hown4 hgrow4 hat4 hlt4; have HB4 : Hid (Below wc.heap.size wc w4) := below_grown0 (HB2.out.alloc HB2.out.size (.cells #[.string nm] 9)) (Nat.le_refl _) ⟨hgrow4.os, hgrow4.tape, hgrow4.output, hgrow4.size, hgrow4.block⟩ (fun q hq => (World.ownsRow.lt HW2.out q hq).1); have HW4 : Hid (w4.ownsRow wc.heap.size 9 1 (.slice (some ⟨g2, 0, none⟩) (j + 1) cap2) (j + 1) ((N.map Value.string).take j ++ [.string nm])) := hown4; obtain ⟨m0, m1, m2⟩ := HHELD.out w4 HB4.out; clear hown4 hgrow4 hat4))
                      refine hK.out _ _ ?_ (fun hHeld13 => ?_)
                      · try dsimp only
                        (refine ⟨?_, ?_, ?_⟩ <;> (repeat (first | assumption | refine cell_drS ?_ | refine cell_alS ?_ _)))
                      clear hK K hHeld12
                      try simp only [Act.put, List.setIfInBounds_toArray, List.set_cons_zero, List.set_cons_succ]
                      refine wpAnyH_ready (rs := [17]) (by kernel_rfl) (by simp) ?_
                      refine AllReadyH.cons (o := { dst := some 86, op := Op.call { callee := Callee.builtin Builtin.append, args := #[Operand.tmp 81, Operand.tmp 85], argTypes := #[23, 23] }, type := 23, pos := "l8_patch.go:90", after := #[{ on := 12, ground := Ground.data }, { on := 16, ground := Ground.data }, { on := 12, ground := Ground.chain }], guard := none }) rfl (fun K hK => ?_) ?_
                      · (refine step_append_some (by rfl) _ _ _ (by rfl) wc.heap.size 9 i1 _ 1 16 Try.underlying23 hj0 hy0 hy1 hy2 rfl (by omega) (.slice (some ⟨g2, 0, none⟩) (j + 1) cap2) (j + 1) ((N.map Value.string).take j ++ [.string nm]) (by rfl) HW4.out ⟨g, jo, none⟩ (N.length - j) (oc' - j) ((N.map Value.string).drop j) (by first | rfl | exact HJO.out) HLEN.out.2 (HNEWS.out _ HB4.out.block).2 (fun u hu => HONE.out u (List.mem_of_mem_drop hu)) (by simp) (by unfold maxLen; have := HWN.out; have := HNl.out; omega) (by have := HWN.out; have := HNl.out; omega) HB4.out.size _ rfl ?_; intro g4 cap4 w5 hown5 hgrow5 hat5 hlt5; have HB5 : Hid (Below wc.heap.size wc w5) := below_grown0 HB4.out (Nat.le_refl _) ⟨hgrow5.os, hgrow5.tape, hgrow5.output, hgrow5.size, hgrow5.block⟩ (fun q hq => (World.ownsRow.lt HW4.out q hq).1); have HW5 : Hid (w5.ownsRow wc.heap.size 9 1 (.slice (some ⟨g4, 0, none⟩) (j + 1 + (N.length - j)) cap4) (j + 1 + (N.length - j)) ((N.map Value.string).take j ++ [.string nm] ++ (N.map Value.string).drop j)) := hown5; obtain ⟨x0, x1, x2⟩ := HHELD.out w5 HB5.out; obtain ⟨hfz, hszz⟩ := HFR.out w5 HB5.out; clear hown5 hgrow5 hat5)
                        refine hK.out _ _ ?_ (fun hHeld14 => ?_)
                        · try dsimp only
                          (refine ⟨?_, ?_, ?_⟩ <;> (repeat (first | assumption | refine cell_drS ?_ | refine cell_alS ?_ _)))
                        clear hK K hHeld13
                        try simp only [Act.put, List.setIfInBounds_toArray, List.set_cons_zero, List.set_cons_succ]
                        refine wpAnyH_take (i := 18) (oi := { dst := some 87, op := Op.fieldAddr 29 (Operand.tmp 3) 4, type := 0, pos := "l8_patch.go:90", after := #[{ on := 0, ground := Ground.phase }, { on := 1, ground := Ground.phase }, { on := 2, ground := Ground.phase }, { on := 3, ground := Ground.phase }, { on := 4, ground := Ground.phase }, { on := 5, ground := Ground.phase }, { on := 6, ground := Ground.phase }, { on := 7, ground := Ground.phase }, { on := 8, ground := Ground.phase }, { on := 9, ground := Ground.phase }, { on := 10, ground := Ground.phase }, { on := 11, ground := Ground.phase }, { on := 12, ground := Ground.phase }, { on := 13, ground := Ground.phase }, { on := 14, ground := Ground.phase }, { on := 15, ground := Ground.phase }, { on := 16, ground := Ground.phase }, { on := 17, ground := Ground.phase }], guard := none }) (v := ?_) rfl (by kernel_rfl) (by kernel_rfl) (by kernel_rfl) (fun _ _ _ h => h) (Or.inl ⟨by rfl, ?_⟩) (by assumption) ?_
                        rotate_left 1
                        · (intro w hSw; (try dsimp only at hSw); go_simp)
                          all_goals (try with_reducible rfl)
                        try simp only [Act.put, List.setIfInBounds_toArray, List.set_cons_zero, List.set_cons_succ]
                        refine wpAnyH_done (by kernel_rfl) ?_ _
                        rw [HJO.out]
                        clear HJO HJ2 HLEN HNEWS hNoc hjNi hjN
                        intro KK hKK
                        go_simp
                        refine hKK _ _ ?_
                        clear hKK KK
                        go_wp2_with fail
                        have hNl3 : j + 1 + (N.length - j) = N.length + 1 := by have := HNl.out; omega
                        have h1 := out_metN (nm := nm) (j := j) (v' := .slice (some ⟨g4, 0, none⟩) (j + 1 + (N.length - j)) cap4) (tot := j + 1 + (N.length - j)) HOL1.out HP1.out HBW1.out HSZ1.out HB5.out HW5.out hNl3 (wx := w5.setCell ⟨w.heap.size + 1 + 1, 4, none⟩ (.slice (some ⟨g4, 0, none⟩) (j + 1 + (N.length - j)) cap4)) rfl ⟨rfl, rfl, rfl⟩
                        have hll : (insAt N j nm).length = j + 1 + (N.length - j) := by rw [insAt_len]; omega
                        rw [← hll] at h1 ⊢
                        exact ⟨⟨i + 1, insAt L j si, insAt N j nm, some ⟨g3, 0, none⟩, cap3, some ⟨g4, 0, none⟩, cap4, xs', hlt, by go_num, HLI1, HDS2, h1.1, h1.2.1, h1.2.2.1.1, h1.2.2.1.2.1, h1.2.2.1.2.2, h1.2.2.2.1, h1.2.2.2.2, fun h => absurd h (Nat.succ_ne_zero i)⟩, by simp [intOf]; omega⟩
                      exact AllReadyH.nil
                    exact AllReadyH.nil
                  exact AllReadyH.nil
                exact AllReadyH.nil
              exact AllReadyH.nil
          · have e5 : (t.kind == 5) = false := by simp [h5]
            have HDS2 : Hid (DoneS k t (i + 1) (insAt L j si) N) := by
              have h := HDS.out
              rw [if_neg h5, HTI.out.1, HTI.out.2] at h
              exact h
            clear HDS
            go_wp2_with fail
            exact ⟨⟨i + 1, insAt L j si, N, some ⟨g3, 0, none⟩, cap3, oa', oc', xs', hlt, by go_num, HLI1, HDS2, HOL1, HON1, HP1.out.1, HP1.out.2.1, HP1.out.2.2, HBW1, HSZ1, fun h => absurd h (Nat.succ_ne_zero i)⟩, by simp [intOf]; omega⟩
    · obtain rfl : i = t.list.length := by omega
      have HEND : Hid (L = (srt (k + 1) t).list ∧ N = (srt (k + 1) t).names ∧ ∀ s ∈ N, s ∈ t.names) := done_end HD.out HWF.out.2.2 (fun h => (HWF.out.1 h).1)
      have HNL : Hid (N.length ≤ t.names.length) := by
        by_cases h5 : t.kind = 5
        · obtain ⟨Q, _, hN, _, hp⟩ := HD.out.2 h5
          show _ ≤ _
          rw [hN, List.length_map, hp.length_eq, List.length_take, prsS_len ((HWF.out.1 h5).1), (HWF.out.1 h5).1]
          omega
        · rw [(HD.out.1 h5).2]; exact Nat.zero_le _
      have o0 : wr.cell? ⟨w.heap.size + 1 + 1, 0, none⟩ = some (.int .i64 t.kind) := by rw [HO2.out.cell]; rfl
      have o1 : wr.cell? ⟨w.heap.size + 1 + 1, 1, none⟩ = some (.int .i64 t.num) := by rw [HO2.out.cell]; rfl
      have o2 : wr.cell? ⟨w.heap.size + 1 + 1, 2, none⟩ = some (.string t.text) := by rw [HO2.out.cell]; rfl
      have r0 : wr.cell? ⟨w.heap.size + 1, 0, none⟩ = some (.int .i64 0) := by rw [HO1.out.cell]; rfl
      have r1 : wr.cell? ⟨w.heap.size + 1, 1, none⟩ = some (.int .i64 0) := by rw [HO1.out.cell]; rfl
      have r2 : wr.cell? ⟨w.heap.size + 1, 2, none⟩ = some (.string ⟨#[]⟩) := by rw [HO1.out.cell]; rfl
      have r3 : wr.cell? ⟨w.heap.size + 1, 3, none⟩ = some (.slice none 0 0) := by rw [HO1.out.cell]; rfl
      have r4 : wr.cell? ⟨w.heap.size + 1, 4, none⟩ = some (.slice none 0 0) := by rw [HO1.out.cell]; rfl
      have rf := fun o => HO1.out.frozen o
      have hzr : w.heap.size + 1 < wr.heap.size := cell_lt r0
      clear HR HNIL
      go_wp2_with fail
      refine bodyPost_ret (v := .agg #[.int .i64 t.kind, .int .i64 t.num, .string t.text, .slice oa t.list.length oc, .slice oa' N.length oc']) (by simp [results, Try.results32, go_sem, hzr, r0, r1, r2, r3, r4]) rfl ⟨oa, oc, oa', oc', ?_, fun W hW => ?_, ?_⟩
      · rw [← HEND.out.1, ← HEND.out.2.1, HLI.out]
      · have hsame : ∀ b, w.heap.size + 3 ≤ b → b < wr.heap.size → W.heap[b]? = wr.heap[b]? := fun b h1 h2 => by
          rw [hW b (by omega) (by simp [World.setCell]; omega)]
          simp only [World.setCell, Array.getElem?_modify]
          repeat rw [if_neg (by omega)]
        rw [← HEND.out.1, ← HEND.out.2.1, HLI.out]
        obtain ⟨e1, e2, e3⟩ := srt_kind (k + 1) t
        have e4 := HLI.out
        have hrl := HOL.out
        rw [← e4] at hrl
        have hres : VlR W (w.heap.size + 3) (k + 1) (srt (k + 1) t) [.int .i64 t.kind, .int .i64 t.num, .string t.text, .slice oa t.list.length oc, .slice oa' N.length oc'] := by
          refine ⟨.slice oa L.length oc, .slice oa' N.length oc', by rw [e1, e2, e3, e4], by rw [e1]; exact hkd, by rw [e2]; exact hnm, by rw [e3]; exact hn, ?_, ?_⟩
          · rw [← HEND.out.1]
            exact hrl.row (by rw [e4]; exact HW.out.1) hsame
          · rw [← HEND.out.2.1]
            refine HON.out.row (Nat.le_trans (Nat.mul_le_mul_right 16 HNL.out) HW.out.2) (fun q hq => ?_) hsame
            obtain ⟨q', hq', he⟩ := List.mem_iff_getElem.1 (HEND.out.2.2 N[q] (List.getElem_mem hq))
            obtain ⟨bn, on, _, _, hcn⟩ := HN.out (List.ne_nil_of_length_pos (by omega))
            rw [← he]
            exact (hcn q' hq').2
        exact VlR.base (by omega) (k + 1) _ _ hres
      · exact ((((HBW.out.setCell (by simp) _).setCell (by simp) _).setCell (by simp) _).setCell (by simp) _).setCell (by simp) _

theorem sortS_all : ∀ k : Nat, SortC k
  | 0 => fun _ _ _ _ h => h.elim
  | k + 1 => sortS_step k (sortS_all k)

end Go.Proofs.Ytdaohfeajicamaa
