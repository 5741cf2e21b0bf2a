
/-
  DERIVED. THE WALK OF (impl.store).nodes: nodes that own their memory.
-/
import Derived.Test.YtehdepnemdbopaaStTb
import Derived.Test.YtehdepnemdbopaaRepN
import Derived.Test.YtehdepnemdbopaaFmValT
import Derived.Deep.RegionHeld3
import Derived.Deep.Cut
namespace Go.Proofs.Ytehdepnemdbopaa
open Go.RowKit
set_option linter.unusedVariables false
set_option linter.unusedSimpArgs false

theorem val_allN : ∀ k : Nat, ValC k
  | 0 => fun _ _ _ _ h _ => h.elim
  | k + 1 => val_step k (valL_step k (val_allN k)) (valT_step k (val_allN k))

/-- What the nodes of a table are like. -/
def NdFine (k : Nat) (x : Nd) : Prop := x.cells.kind = 5 ∧ okB false (k + 1) x.cells = true ∧ x.cells.names.length = x.cells.list.length ∧ I64 x.id ∧ x.type.size ≤ 140737488351232

theorem frozen_filledN {w : World} {b n : Nat} {e : TypeId} {α : Type} {R : Nat → Nat → α → List Value → Prop} {l : List α} {j q0 q1 : Nat} (h : FilledO w b n e R q0 q1 l j) (o : Nat) : w.frozen? ⟨b, o, none⟩ = false := by
  obtain ⟨c, p, h1, _⟩ := h
  exact h1.frozen o

set_option maxHeartbeats 4000000 in
theorem nodes_any (k : Nat) (l : List Nd) (tv : Value) (w : World) (hl : l.length ≤ 12) (hfine : ∀ x ∈ l, NdFine k x) (hrow : ThRow w k l tv) :
    Calls Try.prog 49 #[.agg #[tv]] w fun e w' => ∃ v', e = .returned v' ∧ NdOwn w' (k + 1) (w.heap.size + 2) w'.heap.size l v' ∧ (∀ b, At v' b → b = w.heap.size + 1 ∧ w.heap.size + 1 < w'.heap.size) ∧ Below w.heap.size w w' := by
  obtain ⟨a, cap, rfl, hw, hrest⟩ := Row.len hrow
  have hlen : (l.length : Int) ≤ 12 := by omega
  obtain ⟨i, hi, hz, hs, hby⟩ := info_impl_Node
  have hmk := fun W : World => run_make (P := Try.prog) W 43 82 i _ Try.underlying43 hi hz .i64 .i64 (l.length : Int) (l.length : Int) (by omega) (by omega) (by rw [hby]; omega) (by omega)
  simp only [hs, Int.toNat_natCast] at hmk
  have HFI : Hid (∀ x ∈ l, NdFine k x) := hfine
  have HREST : Hid (l ≠ [] → ∃ b off, a = some ⟨b, off, none⟩ ∧ 0 ≤ b ∧ ∀ (i : Nat) (h : i < l.length), ∃ cs, cs.length = 3 ∧ CellsAt w b (off + i * 3) cs ∧ ThC w k l[i] cs) := hrest
  clear hi hz hs hby hrow hfine hrest
  go_enter Try.func49, Try.ntmps49
  go_wp2_with fail
  clear hmk
  go_loopw [13] (fun i wr => ∃ j : Nat, j ≤ l.length ∧ i = .int .i64 j ∧ Hid (FilledO wr (w.heap.size + 1) 7 82 (NdO wr (k + 1)) (w.heap.size + 2) wr.heap.size l j) ∧ Hid (Below w.heap.size w wr)) (fun i _ => l.length - (intOf i).toNat)
  case atStart =>
    refine ⟨0, Nat.zero_le _, rfl, ?_, ((Below.refl _ _).alloc (Nat.le_refl _) _).alloc (by simp) _⟩
    exact FilledO.made (Owns.made2 w _ _ _) (size_madeCells _ _) (by simp)
  case round =>
    obtain ⟨j, hj, rfl, HF, HB⟩ := hrel
    have hj12 : (j : Int) ≤ 12 := by omega
    by_cases hlt : j < l.length
    · have hlti : (j : Int) < (l.length : Int) := by omega
      obtain ⟨b, off, rfl, _, hcs⟩ := HREST.out (List.ne_nil_of_length_pos (by omega))
      obtain ⟨cs, _, hc, vt, rfl, hR⟩ := hcs j hlt
      obtain ⟨ta, tm, tc, rfl⟩ : ∃ a m c, vt = .slice a m c := by obtain ⟨a, c, h1, _⟩ := hR.len; exact ⟨a, _, c, h1⟩
      have hk : Keeps 0 w wr := Keeps.of_below HB.out (Nat.le_refl _) _
      obtain ⟨c0, c1, c2⟩ := (hc.keeps hk (Nat.zero_le _)).three
      obtain ⟨h5, hok, hnl, hid, hty⟩ := HFI.out l[j] (List.getElem_mem hlt)
      have HV : Hid (∀ W, Keeps 0 wr W → Calls Try.prog 72 #[.slice ta tm tc] W (ValP (k + 1) l[j].cells W)) := fun W h => valT_step k (val_allN k) l[j].cells _ W h5 hok hnl (Row.keeps (hk.trans h) (BrC.keeps (hk.trans h) k) hR)
      have HID : Hid (I64 l[j].id ∧ l[j].type.size ≤ 140737488351232) := ⟨hid, hty⟩
      obtain ⟨bO, hbO⟩ : ∃ bO, bO = w.heap.size + 1 := ⟨_, rfl⟩
      rw [← hbO] at HF ⊢
      obtain ⟨⟨x0, s0⟩, z0⟩ := HF.out.slot hlt (q := 0) (by omega)
      obtain ⟨⟨x1, s1⟩, z1⟩ := HF.out.slot hlt (q := 1) (by omega)
      obtain ⟨⟨x2, s2⟩, z2⟩ := HF.out.slot hlt (q := 2) (by omega)
      obtain ⟨⟨x3, s3⟩, z3⟩ := HF.out.slot hlt (q := 3) (by omega)
      obtain ⟨⟨x4, s4⟩, z4⟩ := HF.out.slot hlt (q := 4) (by omega)
      obtain ⟨⟨x5, s5⟩, z5⟩ := HF.out.slot hlt (q := 5) (by omega)
      obtain ⟨⟨x6, s6⟩, z6⟩ := HF.out.slot hlt (q := 6) (by omega)
      simp only [Nat.add_zero] at s0 z0
      have hBO : bO < wr.heap.size := cell_lt s0
      have HFZ : Hid (∀ o, wr.frozen? ⟨bO, o, none⟩ = false) := fun o => frozen_filledN HF.out o
      have nWO : wr.heap.size ≠ bO := by omega
      have nOW : bO ≠ wr.heap.size := by omega
      have HBO : Hid (bO = w.heap.size + 1) := hbO
      clear hc hR hcs hk h5 hok hnl hid hty hbO
      have HV2 : Hid (Calls Try.prog 72 #[.slice ta tm tc] ((wr.alloc (Obj.cells #[.int .i64 l[j].id, .string l[j].type, .slice ta tm tc] 127)).drew) (fun e w1 => ∃ p1 n1 p1' n1', e = .returned (.agg #[.int .i64 l[j].cells.kind, .int .i64 l[j].cells.num, .string l[j].cells.text, .slice p1 l[j].cells.list.length n1, .slice p1' l[j].cells.names.length n1']) ∧ w1.cell? ⟨bO, j * 7, none⟩ = some x0 ∧ w1.cell? ⟨bO, j * 7 + 1, none⟩ = some x1 ∧ w1.cell? ⟨bO, j * 7 + 2, none⟩ = some x2 ∧ w1.cell? ⟨bO, j * 7 + 3, none⟩ = some x3 ∧ w1.cell? ⟨bO, j * 7 + 4, none⟩ = some x4 ∧ w1.cell? ⟨bO, j * 7 + 5, none⟩ = some x5 ∧ w1.cell? ⟨bO, j * 7 + 6, none⟩ = some x6 ∧ w1.cell? ⟨wr.heap.size, 0, none⟩ = some (.int .i64 l[j].id) ∧ w1.cell? ⟨wr.heap.size, 1, none⟩ = some (.string l[j].type) ∧ w1.cell? ⟨wr.heap.size, 2, none⟩ = some (.slice ta tm tc) ∧ (∀ o, w1.frozen? ⟨bO, o, none⟩ = false) ∧ Hid (Below wr.heap.size wr w1) ∧ Hid (VlO w1 (k + 1) (wr.heap.size + 1) w1.heap.size l[j].cells [.int .i64 l[j].cells.kind, .int .i64 l[j].cells.num, .string l[j].cells.text, .slice p1 l[j].cells.list.length n1, .slice p1' l[j].cells.names.length n1']))) := by
        obtain ⟨WA, hWA⟩ : ∃ WA, WA = (wr.alloc (Obj.cells #[.int .i64 l[j].id, .string l[j].type, .slice ta tm tc] 127)).drew := ⟨_, rfl⟩
        have hAl : ∀ o x, wr.cell? ⟨bO, o, none⟩ = some x → WA.cell? ⟨bO, o, none⟩ = some x := fun o x h => by rw [hWA]; exact (World.cell?_alloc_lt _ _ _ hBO).trans h
        have hAs : WA.heap.size = wr.heap.size + 1 := by rw [hWA]; show (wr.alloc _).heap.size = _; simp
        have hA0 : WA.cell? ⟨wr.heap.size, 0, none⟩ = some (.int .i64 l[j].id) := by rw [hWA]; show (wr.alloc _).cell? _ = _; simp
        have hA1 : WA.cell? ⟨wr.heap.size, 1, none⟩ = some (.string l[j].type) := by rw [hWA]; show (wr.alloc _).cell? _ = _; simp
        have hA2 : WA.cell? ⟨wr.heap.size, 2, none⟩ = some (.slice ta tm tc) := by rw [hWA]; show (wr.alloc _).cell? _ = _; simp
        have hAf : ∀ o, WA.frozen? ⟨bO, o, none⟩ = false := fun o => by rw [hWA]; exact (World.frozen?_of_block (w := wr) (Below.heap_alloc _ _ _ hBO)).trans (HFZ.out o)
        have hAb : Below wr.heap.size wr WA := by rw [hWA]; exact ((Below.refl _ wr).alloc (Nat.le_refl _) _).drew
        have hAk : Keeps 0 wr WA := by rw [hWA]; exact ((Keeps.refl _ _).alloc _).drew
        rw [← hWA]
        refine (HV.out WA hAk).mono ?_
        rintro e w1 ⟨vl', vn', rfl, hR1, hb1⟩
        obtain ⟨p1, n1, p1', n1', hv1⟩ := hR1.cells
        simp only [List.cons.injEq, true_and, and_true] at hv1
        obtain ⟨rfl, rfl⟩ := hv1
        exact ⟨p1, n1, p1', n1', rfl, cell_on hb1 (hAl _ _ s0), cell_on hb1 (hAl _ _ s1), cell_on hb1 (hAl _ _ s2), cell_on hb1 (hAl _ _ s3), cell_on hb1 (hAl _ _ s4), cell_on hb1 (hAl _ _ s5), cell_on hb1 (hAl _ _ s6), cell_on hb1 hA0, cell_on hb1 hA1, cell_on hb1 hA2, fun o => (hb1.frozen (p := ⟨bO, o, none⟩) (by show bO < _; omega)).trans (hAf o), hAb.trans (hb1.mono (by omega)), hAs ▸ hR1⟩
      clear HV HFZ
      go_wp2_with fail
      go_region_held3 (fun w' => w'.cell? ⟨wr.heap.size, 0, none⟩ = some (.int .i64 l[j].id) ∧ w'.cell? ⟨wr.heap.size, 1, none⟩ = some (.string l[j].type) ∧ w'.cell? ⟨wr.heap.size, 2, none⟩ = some (.slice ta tm tc)) (go_keep) (first | (go_at_call 72; refine (Hid.out HV2).mono ?_; rintro e w1 ⟨p1, n1, p1', n1', rfl, s0', s1', s2', s3', s4', s5', s6', t0', t1', t2', hfz, HB1, HR1⟩))
      have hsz1 : wr.heap.size ≤ w1.heap.size := HB1.out.size
      have h1 : ∀ y, y < wr.heap.size → w1.heap[y]? = wr.heap[y]? := HB1.out.block
      have hbO : bO = w.heap.size + 1 := HBO.out
      have HF1 : FilledO w1 bO 7 82 (NdO w1 (k + 1)) (w.heap.size + 2) wr.heap.size l j := HF.out.same (Nat.le_refl _) (h1 _ hBO) (fun a b x cs ha hb' hx => hx.same (fun y y1 y2 => h1 y (by omega)))
      have HF2 : FilledO (w1.setCells bO (j * 7) [.int .i64 l[j].id, .string l[j].type, .int .i64 l[j].cells.kind, .int .i64 l[j].cells.num, .string l[j].cells.text, .slice p1 l[j].cells.list.length n1, .slice p1' l[j].cells.names.length n1']) bO 7 82
          (NdO (w1.setCells bO (j * 7) [.int .i64 l[j].id, .string l[j].type, .int .i64 l[j].cells.kind, .int .i64 l[j].cells.num, .string l[j].cells.text, .slice p1 l[j].cells.list.length n1, .slice p1' l[j].cells.names.length n1']) (k + 1)) (w.heap.size + 2) w1.heap.size l (j + 1) :=
        HF1.put hlt hsz1 _ rfl (fun a b x cs ha _ hx => hx.same (fun b' h1 _ => setCells_else _ _ _ _ (by omega)))
          (fun a ha1 ha2 => NdO.same (fun b' h1 _ => setCells_else _ _ _ _ (by omega)) (NdO.wide (by omega) (Nat.le_refl _) ⟨_, _, rfl, HID.out.1, HID.out.2, HR1.out⟩))
      have hsz2 : (w1.setCells bO (j * 7) [.int .i64 l[j].id, .string l[j].type, .int .i64 l[j].cells.kind, .int .i64 l[j].cells.num, .string l[j].cells.text, .slice p1 l[j].cells.list.length n1, .slice p1' l[j].cells.names.length n1']).heap.size = w1.heap.size := by simp [World.setCells, World.setCell]
      have HF3 : Hid (FilledO (w1.setCells bO (j * 7) [.int .i64 l[j].id, .string l[j].type, .int .i64 l[j].cells.kind, .int .i64 l[j].cells.num, .string l[j].cells.text, .slice p1 l[j].cells.list.length n1, .slice p1' l[j].cells.names.length n1']) bO 7 82
          (NdO (w1.setCells bO (j * 7) [.int .i64 l[j].id, .string l[j].type, .int .i64 l[j].cells.kind, .int .i64 l[j].cells.num, .string l[j].cells.text, .slice p1 l[j].cells.list.length n1, .slice p1' l[j].cells.names.length n1']) (k + 1)) (w.heap.size + 2) (w1.setCells bO (j * 7) [.int .i64 l[j].id, .string l[j].type, .int .i64 l[j].cells.kind, .int .i64 l[j].cells.num, .string l[j].cells.text, .slice p1 l[j].cells.list.length n1, .slice p1' l[j].cells.names.length n1']).heap.size l (j + 1)) := by rw [hsz2]; exact HF2
      have HB3 : Hid (Below w.heap.size w (w1.setCells bO (j * 7) [.int .i64 l[j].id, .string l[j].type, .int .i64 l[j].cells.kind, .int .i64 l[j].cells.num, .string l[j].cells.text, .slice p1 l[j].cells.list.length n1, .slice p1' l[j].cells.names.length n1'])) := Below.setCells (by omega) _ _ (HB.out.trans (HB1.out.mono HB.out.size))
      clear HF1 HF2 hsz2 HF HB HR1 HB1 h1 hbO
      go_wp2_with fail
      exact ⟨⟨j + 1, by omega, by go_num, HF3, HB3⟩, by simp [intOf]; omega⟩
    · obtain rfl : j = l.length := by omega
      have HFF : Hid _ := HF.out.row (wide := 104) (Or.inl (by omega)) (by omega)
      have hflt := HF.out.lt
      go_wp2_with fail
      go_ret
      exact ⟨_, rfl, HFF.out, fun b hb => ⟨hb.eq, hflt⟩, HB.out⟩

end Go.Proofs.Ytehdepnemdbopaa
