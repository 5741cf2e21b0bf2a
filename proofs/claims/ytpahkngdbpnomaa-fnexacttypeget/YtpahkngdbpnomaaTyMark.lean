/-
  DERIVED. THE WALKS OF laws.markTypeS, laws.heldTypeS, laws.markType, laws.heldType.
-/
import Derived.Test.YtpahkngdbpnomaaMarkText
import Derived.Test.YtpahkngdbpnomaaTyOwn
import Derived.Deep.RegionWith
import Derived.BigQuiet
namespace Go.Proofs.Ytpahkngdbpnomaa
open Go.RowKit
set_option linter.unusedVariables false
set_option linter.unusedSimpArgs false

theorem ret_int {k : IntKind} {a b : Int} (h : a = b) : Ending.returned (.int k a) = .returned (.int k b) := by rw [h]

def MarkC (n : Nat) : Prop := ∀ (bs : List Nat) (t : Ty) (x v y : Value) (k : Nat) (w : World), bs.length = n → TyO 24 w bs t [x, v, y] → 1 ≤ k → k + 2 * n ≤ 1000 →
  Calls Try.prog 13 #[v, .int .i64 (k : Int)] w fun e w' => e = .returned (.int .i64 ((k + 2 * n : Nat) : Int)) ∧ MkO 24 markB w' bs k v ∧ Turns bs w w'

set_option maxHeartbeats 1000000 in
theorem mark_zero : MarkC 0 := by
  intro bs t x v y k w hn ht h1 h2
  obtain rfl : bs = [] := List.eq_nil_of_length_eq_zero hn
  obtain ⟨h3, h4⟩ := ht
  simp only [List.cons.injEq, and_true] at h4
  obtain ⟨_, rfl, _⟩ := h4
  have hk1 : (1 : Int) ≤ (k : Int) := by omega
  have hk2 : (k : Int) ≤ 1000 := by omega
  go_enter Try.func13, Try.ntmps13
  go_wp2_with fail
  refine wp_loop_rounds 1 ?_
  rw [rounds_succ]
  go_wp2_with fail
  go_ret
  exact ⟨rfl, rfl, Turns.refl _ _⟩

set_option maxHeartbeats 2000000 in
theorem mark_step (n : Nat) (hn5 : n ≤ 10) (ih : MarkC n) : MarkC (n + 1) := by
  intro bs t x v y k w hn ht h1 h2
  match bs, hn with
  | b :: bs, hn =>
  obtain ⟨t', c0, c1, c2, h3, h4, hO, hnb, hT⟩ := ht
  simp only [List.cons.injEq, and_true] at h4
  obtain ⟨_, rfl, _⟩ := h4
  have hk1 : (1 : Int) ≤ (k : Int) := by omega
  have hk2 : (k : Int) ≤ 1000 := by omega
  have q0 : w.cell? ⟨b, 0, none⟩ = some c0 := by rw [hO.cell]; rfl
  have q1 : w.cell? ⟨b, 1, none⟩ = some c1 := by rw [hO.cell]; rfl
  have q2 : w.cell? ⟨b, 2, none⟩ = some c2 := by rw [hO.cell]; rfl
  have z0 := fun o => hO.frozen o
  go_enter Try.func13, Try.ntmps13
  go_wp2_with fail
  refine wp_loop_rounds 2 ?_
  rw [rounds_succ]
  go_wp2_with fail
  refine (markText_any k _ h1 (by omega)).mono ?_
  rintro e w1 ⟨rfl, hb1⟩
  have hlt := hO.lt
  have hO1 : Owns w1 b #[c0, c1, c2] 24 := hO.below hb1 hlt
  have hTu1 : Turns (b :: bs) w w1 := Turns.of_below hb1 (Nat.le_refl _)
  have hT1 : TyO 24 w1 bs t' [c0, c1, c2] := TyO.same bs t' _ (fun b' hb' => hb1.block b' (TyO.lt bs t' _ hT b' hb')) hT
  obtain ⟨ca, cn, rfl⟩ := hT.slice
  replace q0 : w1.cell? ⟨b, 0, none⟩ = some c0 := by rw [hO1.cell]; rfl
  replace q1 : w1.cell? ⟨b, 1, none⟩ = some (.slice ca cn cn) := by rw [hO1.cell]; rfl
  replace q2 : w1.cell? ⟨b, 2, none⟩ = some c2 := by rw [hO1.cell]; rfl
  replace z0 := fun o => hO1.frozen o
  have hO2 : Owns (w1.setCell ⟨b, 0, none⟩ (.string (markB k))) b #[.string (markB k), .slice ca cn cn, c2] 24 := hO1.set 0 _
  have HO2 : Hid (Owns (w1.setCell ⟨b, 0, none⟩ (.string (markB k))) b #[.string (markB k), .slice ca cn cn, c2] 24) := hO2
  have HT2 : Hid (TyO 24 (w1.setCell ⟨b, 0, none⟩ (.string (markB k))) bs t' [c0, .slice ca cn cn, c2]) :=
    TyO.same bs t' _ (fun b' hb' => Below.heap_setCell _ _ _ _ (fun he => hnb (by rw [← show b' = b from he]; exact hb'))) hT1
  have HTu2 : Hid (Turns (b :: bs) w (w1.setCell ⟨b, 0, none⟩ (.string (markB k)))) := hTu1.setCell List.mem_cons_self _
  clear hb1 hO1 hTu1 hT1 hO hO2 hT
  go_wp2_with fail
  have ek : ((k + 1 : Nat) : Int) = (k : Int) + 1 := by omega
  have hcall := ih bs t' c0 (.slice ca cn cn) c2 (k + 1) _ (by simpa using hn) HT2.out (by omega) (by omega)
  rw [ek] at hcall
  refine hcall.mono ?_
  rintro e w2 ⟨rfl, hM, hTu⟩
  have e2 : ((k + 1 + 2 * n : Nat) : Int) = (k : Int) + 1 + 2 * (n : Int) := by omega
  rw [e2]
  have hO3 : Owns w2 b #[.string (markB k), .slice ca cn cn, c2] 24 := HO2.out.same (hTu.block b HO2.out.lt hnb)
  have HO4 : Hid (∀ u, Owns (w2.setCell ⟨b, 2, none⟩ u) b #[.string (markB k), .slice ca cn cn, u] 24) := fun u => hO3.set 2 u
  have HO5 : Hid (∀ {u u' : Value}, u = u' → Owns (w2.setCell ⟨b, 2, none⟩ u) b #[.string (markB k), .slice ca cn cn, u'] 24) := fun h => by rw [← h]; exact hO3.set 2 _
  have HM : Hid (∀ u, MkO 24 markB (w2.setCell ⟨b, 2, none⟩ u) bs (k + 1) (.slice ca cn cn)) := fun u =>
    MkO.same bs (k + 1) _ (fun b' hb' => Below.heap_setCell _ _ _ _ (fun he => hnb (by rw [← show b' = b from he]; exact hb'))) hM
  have HTu3 : Hid (∀ u, Turns (b :: bs) w (w2.setCell ⟨b, 2, none⟩ u)) := fun u => (HTu2.out.trans (hTu.mono (fun _ h => List.mem_cons_of_mem _ h))).setCell List.mem_cons_self u
  have q3 : w2.cell? ⟨b, 2, none⟩ = some c2 := by rw [hO3.cell]; rfl
  have z3 := fun o => hO3.frozen o
  have hnn : (n : Int) ≤ 10 := by omega
  have hlb : bs.length = n := by simpa using hn
  have HLB : Hid (bs.length = n) := hlb
  clear hcall hM hTu HO2 HT2 HTu2 q0 q1 q2 z0 hO3 hlb
  go_wp2_with fail
  rw [rounds_succ]
  go_wp2_with fail
  go_ret
  refine ⟨ret_int ?_, ⟨rfl, _, HO5.out ?_, HM.out _⟩, HTu3.out _⟩
  · omega
  · rw [HLB.out, e2]

theorem mark_all : ∀ n : Nat, n ≤ 11 → MarkC n
  | 0, _ => mark_zero
  | n + 1, h => mark_step n (by omega) (mark_all n (by omega))

def HeldC (n : Nat) : Prop := ∀ (bs : List Nat) (v : Value) (k : Nat) (w : World), bs.length = n → MkO 24 markB w bs k v → 1 ≤ k → k + 2 * n ≤ 1000 →
  Calls Try.prog 14 #[v, .int .i64 (k : Int)] w fun e w' => e = .returned (.int .i64 ((k + 2 * n : Nat) : Int)) ∧ Below w.heap.size w w'

set_option maxHeartbeats 1000000 in
theorem held_zero : HeldC 0 := by
  intro bs v k w hn ht h1 h2
  obtain rfl : bs = [] := List.eq_nil_of_length_eq_zero hn
  obtain rfl : v = .slice none 0 0 := ht
  have hk1 : (1 : Int) ≤ (k : Int) := by omega
  have hk2 : (k : Int) ≤ 1000 := by omega
  go_enter Try.func14, Try.ntmps14
  go_wp2_with fail
  refine wp_loop_rounds 1 ?_
  rw [rounds_succ]
  go_wp2_with fail
  go_ret
  exact ⟨rfl, Below.refl _ _⟩

set_option maxHeartbeats 2000000 in
theorem held_step (n : Nat) (hn5 : n ≤ 10) (ih : HeldC n) : HeldC (n + 1) := by
  intro bs v k w hn ht h1 h2
  match bs, hn with
  | b :: bs, hn =>
  obtain ⟨rfl, v1, hO, hM⟩ := ht
  have hlb : bs.length = n := by simpa using hn
  rw [hlb] at hO
  have hk1 : (1 : Int) ≤ (k : Int) := by omega
  have hk2 : (k : Int) ≤ 1000 := by omega
  have hnn : (n : Int) ≤ 10 := by omega
  have e2 : ((k + 1 + 2 * n : Nat) : Int) = (k : Int) + 1 + 2 * (n : Int) := by omega
  rw [e2] at hO
  have q0 : w.cell? ⟨b, 0, none⟩ = some (.string (markB k)) := by rw [hO.cell]; rfl
  have q1 : w.cell? ⟨b, 1, none⟩ = some v1 := by rw [hO.cell]; rfl
  have q2 : w.cell? ⟨b, 2, none⟩ = some (.bool (((k : Int) + 1 + 2 * (n : Int)) % 3 == 0)) := by rw [hO.cell]; rfl
  have HM : Hid (MkO 24 markB w bs (k + 1) v1) := hM
  have HLB : Hid (bs.length = n) := hlb
  clear hO hM hlb e2
  go_enter Try.func14, Try.ntmps14
  go_wp2_with fail
  refine wp_loop_rounds 2 ?_
  rw [rounds_succ]
  go_wp2_with fail
  go_region_with (go_at_call 20; refine (markText_any k _ h1 (by omega)).mono ?_; rintro e w1 ⟨rfl, hb1⟩; have y0 := cell_on (W := w.drew) hb1 q0; have HB1 : Hid _ := hb1; clear hb1)
  all_goals
    have y1 := cell_on (W := w.drew) HB1.out q1
    have y2 := cell_on (W := w.drew) HB1.out q2
    have HB2 : Hid (Below w.heap.size w w1) := (Below.refl _ _).drew.trans HB1.out
    have HM1 : Hid (MkO 24 markB w1 bs (k + 1) v1) := MkO.on HB2.out HM.out
    go_wp2_with fail
    have ek : ((k + 1 : Nat) : Int) = (k : Int) + 1 := by omega
    have hcall := ih bs v1 (k + 1) _ HLB.out HM1.out (by omega) (by omega)
    rw [ek] at hcall
    refine hcall.mono ?_
    rintro e w2 ⟨rfl, hb2⟩
    have e2 : ((k + 1 + 2 * n : Nat) : Int) = (k : Int) + 1 + 2 * (n : Int) := by omega
    rw [e2]
    have y3 := cell_on hb2 y2
    have HB3 : Hid (Below w.heap.size w w2) := HB2.out.trans (hb2.mono HB2.out.size)
    clear hb2 hcall HM1 HM q0 q1 q2 e2
    go_wp2_with fail
    rw [rounds_succ]
    go_wp2_with fail
    go_ret
    exact ⟨ret_int (by omega), HB3.out⟩

theorem held_all : ∀ n : Nat, n ≤ 11 → HeldC n
  | 0, _ => held_zero
  | n + 1, h => held_step n (by omega) (held_all n (by omega))

set_option maxHeartbeats 1000000 in
theorem markType_any (bs : List Nat) (t : Ty) (x v y : Value) (k : Nat) (w : World) (hn : bs.length ≤ 11) (ht : TyO 24 w bs t [x, v, y]) (h1 : 1 ≤ k) (h2 : k + 2 * bs.length ≤ 1000) :
    Calls Try.prog 7 #[.agg #[x, v, y], .int .i64 (k : Int)] w fun e w' => e = .returned (.int .i64 ((k + 2 * bs.length : Nat) : Int)) ∧ MkO 24 markB w' bs k v ∧ Turns bs w w' := by
  have HT : Hid (∀ o, TyO 24 (w.alloc o) bs t [x, v, y]) := fun o => TyO.same bs t _ (fun b hb => Below.heap_alloc _ _ _ (TyO.lt bs t _ ht b hb)) ht
  have HL : Hid (∀ b ∈ bs, b < w.heap.size) := TyO.lt bs t _ ht
  clear ht
  go_enter Try.func7, Try.ntmps7
  go_wp2_with fail
  refine (mark_all bs.length hn bs t x v y k _ rfl (HT.out _) h1 h2).mono ?_
  rintro e w1 ⟨rfl, hM, hTu⟩
  have HM : Hid _ := hM
  have HTu : Hid (Turns bs w w1) := (Turns.of_below ((Below.refl _ _).alloc (Nat.le_refl _) _) (Nat.le_refl _)).trans hTu
  clear hM hTu
  go_wp2_with fail
  go_ret
  exact ⟨rfl, HM.out, HTu.out⟩

set_option maxHeartbeats 1000000 in
theorem heldType_any (bs : List Nat) (x v y : Value) (k : Nat) (w : World) (hn : bs.length ≤ 11) (ht : MkO 24 markB w bs k v) (h1 : 1 ≤ k) (h2 : k + 2 * bs.length ≤ 1000) :
    Calls Try.prog 8 #[.agg #[x, v, y], .int .i64 (k : Int)] w fun e w' => e = .returned (.int .i64 ((k + 2 * bs.length : Nat) : Int)) ∧ Below w.heap.size w w' := by
  have HT : Hid (∀ o, MkO 24 markB (w.alloc o) bs k v) := fun o => MkO.on ((Below.refl _ _).alloc (Nat.le_refl _) _) ht
  have hpos : (0 : Int) ≤ ((k + 2 * bs.length : Nat) : Int) := by omega
  clear ht
  go_enter Try.func8, Try.ntmps8
  go_wp2_with fail
  refine (held_all bs.length hn bs v k _ rfl (HT.out _) h1 h2).mono ?_
  rintro e w1 ⟨rfl, hb1⟩
  have HB : Hid (Below w.heap.size w w1) := ((Below.refl _ _).alloc (Nat.le_refl _) _).trans (hb1.mono (by simp))
  clear hb1
  generalize hr : ((k + 2 * bs.length : Nat) : Int) = r at *
  have Hr : Hid (((k + 2 * bs.length : Nat) : Int) = r) := hr
  clear hr
  go_wp2_with fail
  go_ret
  exact ⟨ret_int Hr.out.symm, HB.out⟩

end Go.Proofs.Ytpahkngdbpnomaa
