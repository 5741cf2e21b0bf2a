
/-
  DERIVED. laws.pgTexts; spec.DrawPointerText, spec.DrawPointerGet: what is drawn of paths.
-/
import Derived.Test.YtedeeckbgjalcaaDoorPgS
import Derived.Test.YtedeeckbgjalcaaDoorDrawW
import Derived.Deep.RegionWith
import Derived.BigQuiet
namespace Go.Proofs.YtedeeckbgjalcaaDoor
open Go.RowKit
set_option linter.unusedVariables false
set_option linter.unusedSimpArgs false

set_option maxHeartbeats 1000000 in
theorem pgTexts_any (l : List ByteArray) (v v' : Value) (w : World) (hrow : StrRow w 0 l v) (hrow' : StrRow w 0 l v') :
    Calls Tryd.prog 11 #[v, v'] w fun e w' => e = .returned (.bool true) ∧ Below w.heap.size w w' := by
  obtain ⟨a, cap, rfl, hw, hrest⟩ := hrow.len
  obtain ⟨a', cap', rfl, _, hrest'⟩ := hrow'.len
  have hlen : (l.length : Int) ≤ 140737488351232 := by omega
  clear hrow hrow'
  go_enter Tryd.func11, Tryd.ntmps11
  go_wp2_with fail
  go_loopw [5] (fun i wr => ∃ j : Nat, j ≤ l.length ∧ i = .int .i64 j ∧ Below w.heap.size w wr) (fun i _ => l.length - (intOf i).toNat)
  case atStart => exact ⟨0, Nat.zero_le _, rfl, Below.refl _ _⟩
  case round =>
    obtain ⟨j, hj, rfl, hb⟩ := hrel
    by_cases hlt : j < l.length
    · obtain ⟨b, off, rfl, _, hcs⟩ := hrest (List.ne_nil_of_length_pos (by omega))
      obtain ⟨c0, _⟩ := hcs j hlt
      obtain ⟨b', off', rfl, _, hcs'⟩ := hrest' (List.ne_nil_of_length_pos (by omega))
      obtain ⟨c0', _⟩ := hcs' j hlt
      have c1 : wr.cell? ⟨b, off + j, none⟩ = some (.string l[j]) := (Keeps.of_below hb (Nat.le_refl _) 0).cell (Nat.zero_le _) c0
      have c1' : wr.cell? ⟨b', off' + j, none⟩ = some (.string l[j]) := (Keeps.of_below hb (Nat.le_refl _) 0).cell (Nat.zero_le _) c0'
      clear hcs hrest hcs' hrest' c0 c0'
      go_wp2_with fail
      go_region_with (fail)
      all_goals
        go_wp2_with fail
        exact ⟨⟨j + 1, by omega, by go_num, hb.drew⟩, by simp [intOf]; omega⟩
    · go_wp2_with fail
      go_ret
      exact ⟨rfl, hb⟩


theorem mkP_data (x : ByteArray) : mkP x.data.toList = x := by
  apply ByteArray.ext
  simp [mkP]
theorem strs_at (w : World) (l : List ByteArray) (e : TypeId) (i : Nat) (h : i < l.length) : (w.alloc (.cells (l.map Value.string).toArray e)).cell? ⟨w.heap.size, i, none⟩ = some (.string l[i]) := by
  rw [(Owns.made w _ e).cell]
  simp [h]
theorem NR.same {B g cp : Nat} {w w' : World} {ns : List (List UInt8)} (h : NR B w g cp ns) (hs : w'.heap[g]? = w.heap[g]?) : NR B w' g cp ns := by
  refine ⟨h.1, ?_⟩
  rcases h.2 with q | ⟨g', cap, cur, q1, q2, q3, q4⟩
  · exact Or.inl q
  · obtain rfl : g' = g := by
      simp only [Value.slice.injEq, Option.some.injEq, Addr.mk.injEq, and_true] at q1
      exact q1.1.symm
    exact Or.inr ⟨g', cap, cur, q1, q2, by rw [hs]; exact q3, q4⟩
theorem below_turnsP {rb : Nat} {w a b : World} (h : Below w.heap.size w a) (ht : Turns [rb] a b) (hr : w.heap.size ≤ rb) : Below w.heap.size w b :=
  ⟨ht.os.trans h.os, ht.tape.trans h.tape, ht.output.trans h.output, Nat.le_trans h.size ht.size, fun k hk => (ht.block k (Nat.lt_of_lt_of_le hk h.size) (by simp; omega)).trans (h.block k hk)⟩
theorem code_below {w w' : World} {a : Option Addr} {n : Nat} (h : CodeAt w a n) (hb : Below w.heap.size w w') : CodeAt w' a n := fun i hi => by
  obtain ⟨b, off, m, h1, h2, h3⟩ := h i hi
  exact ⟨b, off, m, h1, h2, cell_on hb h3⟩

/-- The names of which paths are drawn. -/
def pNames : List ByteArray := [⟨#[]⟩, ⟨#[97]⟩, ⟨#[97, 47, 98]⟩, ⟨#[126]⟩, ⟨#[126, 49]⟩, ⟨#[48]⟩, ⟨#[108, 111, 110, 103, 32, 110, 97, 109, 101]⟩]
def pTexts : List ByteArray := [⟨#[]⟩, ⟨#[47]⟩, ⟨#[47, 97, 47, 48]⟩, ⟨#[47, 126, 48, 126, 49]⟩, ⟨#[47, 126]⟩, ⟨#[47, 126, 50]⟩, ⟨#[97]⟩, ⟨#[47, 47]⟩, ⟨#[47, 97, 126, 49, 98, 47, 126, 48, 49]⟩]
theorem pNames_size : ∀ x ∈ pNames, x.size ≤ 20 := by decide
theorem pTexts_size : ∀ x ∈ pTexts, x.size ≤ 20 := by decide

set_option maxHeartbeats 4000000 in
theorem drawPG_any (a : Option Addr) (len cap : Nat) (w : World) (hl : len ≤ 1048576) (hcap : len ≤ cap) (hc : CodeAt w a len) :
    Calls Tryd.prog 12 #[.slice a len cap] w fun e w' => ∃ s : ByteArray, e = .returned (.string s) ∧ s.size ≤ 20 ∧ Below w.heap.size w w' := by
  have HC : Hid (CodeAt w a len) := hc
  clear hc
  go_enter Tryd.func12, Tryd.ntmps12
  go_wp2_with fail
  refine (l1Open_any a len cap w hl hcap HC.out).mono ?_
  rintro e w1 ⟨n, rfl, hR, hb⟩
  have HR : Hid (RdAt w1 w.heap.size a n cap 0) := hR
  have HB : Hid (Below w.heap.size w w1) := hb
  have hlt : w.heap.size < w1.heap.size := hR.own.lt
  clear hR hb
  go_wp2_with fail
  refine (of_any pTexts w1.heap.size 9 w.heap.size a n cap 0 _ (by decide) (by decide) (by omega) (HR.out.alloc _) (by omega) (fun i h => strs_at w1 _ _ i h)).mono ?_
  rintro e w2 ⟨i, hi, rfl, hR2, hT⟩
  have HB2 : Hid (Below w.heap.size w w2) := below_turnsP (HB.out.alloc HB.out.size _) hT (Nat.le_refl _)
  have hsz : pTexts[i].size ≤ 20 := pTexts_size _ (List.getElem_mem hi)
  clear hR2 hT
  generalize pTexts[i] = s at *
  go_wp2_with fail
  go_ret
  exact ⟨s, rfl, hsz, HB2.out⟩

set_option maxHeartbeats 4000000 in
theorem drawPT_any (a : Option Addr) (len cap : Nat) (w : World) (hl : len ≤ 1048576) (hcap : len ≤ cap) (hc : CodeAt w a len) :
    Calls Tryd.prog 7 #[.slice a len cap] w fun e w' => ∃ (ns : List (List UInt8)) (g cp : Nat), e = .returned (.slice (some ⟨g, 0, none⟩) ns.length cp) ∧ w.heap.size ≤ g ∧ (∃ B, NR B w' g cp ns) ∧ ns.length ≤ 3 ∧ (∀ x ∈ ns, x.length ≤ 20) ∧ Below w.heap.size w w' := by
  obtain ⟨i0, hi0, hz0, hz1, hz2⟩ := info_string
  have HC : Hid (CodeAt w a len) := hc
  clear hc
  go_enter Tryd.func7, Tryd.ntmps7
  go_wp2_with fail
  refine (l1Open_any a len cap w hl hcap HC.out).mono ?_
  rintro e w1 ⟨n, rfl, hR, hb⟩
  have HR : Hid (RdAt w1 w.heap.size a n cap 0) := hR
  have HB : Hid (Below w.heap.size w w1) := hb
  have hlt : w.heap.size < w1.heap.size := hR.own.lt
  have HLW : Hid (LowV a n w1.heap.size) := hR.lowV
  clear hR hb
  go_wp2_with fail
  refine (pick_any 4 w.heap.size a n cap 0 _ (by omega) (by omega) (by omega) (HR.out.alloc _)).mono ?_
  rintro e w2 ⟨m, hm, rfl, hR2, hT2⟩
  have HN2 : Hid (NR w1.heap.size w2 w1.heap.size 0 []) := by
    have h := World.ownsRow_made (base := w1.heap.size) (e := 9) (size := 1) w1 #[] 0 (by omega) (Nat.zero_le _) rfl
    exact NR.same h (hT2.block _ (by simp) (by simp; omega))
  have HB2 : Hid (Below w.heap.size w w2) := below_turnsP (HB.out.alloc HB.out.size _) hT2 (Nat.le_refl _)
  have HR2 : Hid (RdAt w2 w.heap.size a n cap 1) := hR2
  have hsz2 : w1.heap.size + 1 ≤ w2.heap.size := by have := hT2.size; simpa using this
  clear hR2 hT2 HR HB
  have hsz3 : w1.heap.size ≤ w2.heap.size := by omega
  go_wp2_with fail
  go_loopw [4, 5] (fun v i wr => ∃ (g cp k q : Nat) (ns : List (List UInt8)), v = .slice (some ⟨g, 0, none⟩) ns.length cp ∧ i = .int .i64 k ∧ k + ns.length ≤ 3 ∧ q ≤ 1 + ns.length ∧ Hid (NR w1.heap.size wr g cp ns) ∧ Hid (∀ x ∈ ns, x.length ≤ 20) ∧ Hid (RdAt wr w.heap.size a n cap q) ∧ Hid (Below w.heap.size w wr) ∧ Hid (w1.heap.size ≤ wr.heap.size)) (fun _ i _ => (intOf i).toNat)
  case atStart => exact ⟨w1.heap.size, 0, m, 1, [], rfl, rfl, by simp; omega, by simp, HN2.out, fun x h => by simp at h, HR2.out, HB2.out, hsz3⟩
  case round =>
    obtain ⟨g, cp, k, q, ns, rfl, rfl, hk, hq, HN, HX, HRd, HBr, HW1⟩ := hrel
    have hBw : w.heap.size ≤ wr.heap.size := HBr.out.size
    have hrl : w.heap.size < wr.heap.size := HRd.out.own.lt
    by_cases hk0 : 0 < k
    · have hki : (0 : Int) < (k : Int) := by omega
      go_wp2_with fail
      refine (of_any pNames wr.heap.size 7 w.heap.size a n cap q _ (by decide) (by decide) (by omega) (HRd.out.alloc _) (by omega) (fun i h => strs_at wr _ _ i h)).mono ?_
      rintro e w3 ⟨i, hi, rfl, hR3, hT3⟩
      obtain ⟨x, hx⟩ : ∃ x, pNames[i] = x := ⟨_, rfl⟩
      have hxs : x.size ≤ 20 := by rw [← hx]; exact pNames_size _ (List.getElem_mem hi)
      rw [hx]
      have hgl := HN.out.lt
      have HN3 : Hid (NR w1.heap.size w3 g cp ns) := (HN.out.alloc _).same (hT3.block _ (by simp; omega) (by simp; omega))
      have HB3 : Hid (Below w.heap.size w w3) := below_turnsP (HBr.out.alloc hBw _) hT3 (Nat.le_refl _)
      have HR3 : Hid (RdAt w3 w.heap.size a n cap (q + 1)) := hR3
      have hs3 : wr.heap.size ≤ w3.heap.size := by have := hT3.size; simp at this; omega
      have HW3 : Hid (w1.heap.size ≤ w3.heap.size) := Nat.le_trans HW1.out hs3
      have HMP : Hid (Value.string x = Value.string (mkP x.data.toList)) := by show _ = _; rw [mkP_data]
      have HXS : Hid (∀ y ∈ ns ++ [x.data.toList], y.length ≤ 20) := fun y hy => by
        rcases List.mem_append.1 hy with h | h
        · exact HX.out y h
        · simp only [List.mem_cons, List.not_mem_nil, or_false] at h
          subst h
          simpa using hxs
      clear hR3 hT3 hx HN HBr HRd HX
      go_wp2_with (at_builtin; refine wpList_append_own _ rfl _ _ 23 rfl w1.heap.size 9 i0 (.string ByteArray.empty) 1 16 Tryd.underlying23 hi0 hz0 hz1 hz2 rfl (by decide) _ _ _ rfl (World.ownsRow.alloc HN3.out _) ⟨w3.heap.size, 0, none⟩ 1 1 [.string x] rfl rfl (World.news_of_block (cs := #[.string x]) (t := 9) (fr := (0, 0)) (heap_alloc_new w3 _)) (by simp [Value.oneCell']) (by unfold maxLen; omega) (by omega) (by simp; omega) ?_)
      intro v' w4 hown hgrow hnn
      have HN4 : ∃ g' cp', v' = .slice (some ⟨g', 0, none⟩) (ns ++ [x.data.toList]).length cp' ∧ NR w1.heap.size w4 g' cp' (ns ++ [x.data.toList]) := by
        rw [HMP.out] at hown
        obtain ⟨h1, h2⟩ := hown
        rcases h2 with ⟨e, e0⟩ | ⟨g', cp', cur, rfl, h3⟩
        · omega
        · exact ⟨g', cp', by simp, by rw [NR, List.length_append, List.map_append]; exact ⟨by simp, Or.inr ⟨g', cp', cur, rfl, h3⟩⟩⟩
      obtain ⟨g', cp', rfl, hN4⟩ := HN4
      have HN4 : Hid (NR w1.heap.size w4 g' cp' (ns ++ [x.data.toList])) := hN4
      have hB4 : Below w1.heap.size w3 w4 := ((Below.refl _ _).alloc HW3.out _).grown hgrow (by have := HW3.out; simp; omega) (fun k hk => (World.ownsRow.lt HN3.out k hk).1)
      have HB4 : Hid (Below w.heap.size w w4) := HB3.out.trans (hB4.mono (by omega))
      have HW4 : Hid (w1.heap.size ≤ w4.heap.size) := Nat.le_trans HW3.out hB4.size
      have HR4 : Hid (RdAt w4 w.heap.size a n cap (q + 1)) := HR3.out.grew (B := w1.heap.size) hlt HLW.out (fun q hq => hB4.block q hq)
      have HK1 : Hid (((k - 1 : Nat) : Int) = (k : Int) - 1) := by show _ = _; omega
      clear hown hgrow hnn hN4 hB4 HN3 HB3 HR3
      go_wp2_with fail
      exact ⟨⟨g', cp', k - 1, q + 1, ns ++ [x.data.toList], rfl, by rw [HK1.out], by simp; omega, by simp; omega, HN4, HXS, HR4, HB4, HW4⟩, by simp [intOf]; omega⟩
    · have hki : ¬ (0 : Int) < (k : Int) := by omega
      have hkd : decide ((0 : Int) < (k : Int)) = false := decide_eq_false hki
      go_wp2_with fail
      go_ret
      exact ⟨ns, g, cp, rfl, Nat.le_trans (Nat.le_of_lt hlt) HN.out.lt.1, ⟨_, HN.out⟩, by omega, HX.out, HBr.out⟩

end Go.Proofs.YtedeeckbgjalcaaDoor
