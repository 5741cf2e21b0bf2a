
/-
  DERIVED. THE WALK OF spec.l5Set.
-/
import Derived.Test.YtehdepnemdbopaaSpAt
import Derived.Test.YtehdepnemdbopaaStFa
import Derived.Test.YtehdepnemdbopaaStCr
namespace Go.Proofs.Ytehdepnemdbopaa
open Go.RowKit
set_option linter.unusedVariables false
set_option linter.unusedSimpArgs false

def SpecSS (k : Nat) (l : List Nd) (id : Int) (s : ByteArray) (t : Vl) (w : World) (e : Ending) (w' : World) : Prop :=
  ∃ p rv, SetI l id s t p ∧ e = .returned (.tuple #[rv, .bool p.2]) ∧ NdRow w' w.heap.size (k + 1) p.1 rv ∧ Below w.heap.size w w'

set_option maxHeartbeats 4000000 in
set_option maxRecDepth 100000 in
theorem l5Set_any (k : Nat) (l : List Nd) (t : Vl) (v vl vn : Value) (id : Int) (s : ByteArray) (w : World) (hs : s.size ≤ 140737488351232) (hl12 : l.length ≤ 12) (hnl : ∀ (i : Nat) (h : i < l.length), l[i].cells.names.length = l[i].cells.list.length) (hrow : NdRow w 0 (k + 1) l v) (hv : VlR w 0 k t [.int .i64 t.kind, .int .i64 t.num, .string t.text, vl, vn]) :
    Calls Try.prog 45 #[v, .int .i64 id, .string s, .agg #[.int .i64 t.kind, .int .i64 t.num, .string t.text, vl, vn]] w (SpecSS k l id s t w) := by
  have HL : Hid (∀ (i : Nat) (h : i < l.length), I64 l[i].id ∧ l[i].type.size ≤ 140737488351232) := fun i hi => by
    obtain ⟨_, _, _, _, hr⟩ := Row.len hrow
    obtain ⟨_, _, _, _, hcs⟩ := hr (List.ne_nil_of_length_pos (by omega))
    obtain ⟨_, _, _, _, _, _, h1, h2, _⟩ := hcs i hi
    exact ⟨h1, h2⟩
  obtain ⟨a, cap, rfl, hw, _⟩ := Row.len hrow
  obtain ⟨va, vc, va', vc', hvv⟩ := hv.cells
  simp only [List.cons.injEq, true_and, and_true] at hvv
  obtain ⟨rfl, rfl⟩ := hvv
  have HR : Hid (∀ W, Keeps 0 w W → NdRow W 0 (k + 1) l (.slice a l.length cap)) := fun W h => hrow.keeps h
  have HV : Hid (∀ W, Keeps 0 w W → VlR W 0 k t [.int .i64 t.kind, .int .i64 t.num, .string t.text, .slice va t.list.length vc, .slice va' t.names.length vc']) := fun W h => VlR.keeps h _ _ _ hv
  have hli : (l.length : Int) ≤ 12 := by omega
  have HW : Hid (l.length * 104 ≤ 140737488351232) := hw
  have hsm : s.size ≤ maxLen := by unfold maxLen; omega
  clear hrow hv hw
  go_enter Try.func45, Try.ntmps45
  go_wp2_with fail
  obtain ⟨W0, hW0⟩ : ∃ W, W = w.alloc (Obj.cells #[.int .i64 t.kind, .int .i64 t.num, .string t.text, .slice va t.list.length vc, .slice va' t.names.length vc'] 29) := ⟨_, rfl⟩
  rw [← hW0]
  have hk0 : Keeps 0 w W0 := by rw [hW0]; exact (Keeps.refl _ _).alloc _
  have HO0 : Hid (Owns W0 w.heap.size #[.int .i64 t.kind, .int .i64 t.num, .string t.text, .slice va t.list.length vc, .slice va' t.names.length vc'] 29) := by rw [hW0]; exact Owns.made _ _ _
  have hz0 : W0.heap.size = w.heap.size + 1 := by rw [hW0]; simp
  have HB0 : Hid (Below w.heap.size w W0) := by rw [hW0]; exact (Below.refl _ _).alloc (Nat.le_refl _) _
  refine (l5Copy_any k l _ W0 (HR.out _ hk0)).mono ?_
  rintro e w1 ⟨oa, oc, xs, lo, hi, rfl, hC⟩
  have HC : Hid (CopyingN k l W0 w1 oa oc l.length xs lo hi) := hC
  have HB1 : Hid (Below w.heap.size w w1) := HB0.out.trans (hC.below.mono (by omega))
  have HO1 : Hid (Owns w1 w.heap.size #[.int .i64 t.kind, .int .i64 t.num, .string t.text, .slice va t.list.length vc, .slice va' t.names.length vc'] 29) := HO0.out.same (hC.below.block _ (by omega))
  have HK1 : Hid (Keeps 0 w w1) := Keeps.of_below HB1.out (Nat.le_refl _) _
  have HROW : Hid (∀ W, Below w1.heap.size w1 W → NdRow W w.heap.size (k + 1) l (.slice oa l.length oc)) := fun W hb => Row.base (by omega) (fun x cs h => by obtain ⟨a1, a2, a3, a4, a5, a6⟩ := h; exact ⟨a1, a2, a3, a4, a5, VlR.base (by omega) _ _ _ a6⟩) (HC.out.row HW.out HL.out (fun b _ h2 => hb.block b h2))
  clear hC hW0 hk0 HO0
  go_wp2_with fail
  refine (l5At_any (k + 1) l _ id _ (HR.out _ HK1.out)).mono ?_
  rintro e w2 ⟨hm, rfl⟩
  have x0 : w2.cell? ⟨w.heap.size, 0, none⟩ = some (.int .i64 t.kind) := by rw [HO1.out.cell]; rfl
  have x1 : w2.cell? ⟨w.heap.size, 1, none⟩ = some (.int .i64 t.num) := by rw [HO1.out.cell]; rfl
  have x2 : w2.cell? ⟨w.heap.size, 2, none⟩ = some (.string t.text) := by rw [HO1.out.cell]; rfl
  have x3 : w2.cell? ⟨w.heap.size, 3, none⟩ = some (.slice va t.list.length vc) := by rw [HO1.out.cell]; rfl
  have x4 : w2.cell? ⟨w.heap.size, 4, none⟩ = some (.slice va' t.names.length vc') := by rw [HO1.out.cell]; rfl
  rcases hm with ⟨i, hi', hid, rfl⟩ | ⟨hno, rfl⟩
  · have hi0 : decide ((i : Int) < 0) = false := decide_eq_false (by omega)
    have hii : (i : Int) < 12 := by omega
    have HID : Hid (l[i].id = id) := hid
    clear hid
    go_wp2_with fail
    refine (l1Name_any s w2 hsm).mono ?_
    rintro e w3 ⟨rfl, rfl⟩
    cases hnm : nameB s.data.toList
    · go_wp2_with fail
      refine bodyPost_ret (v := .tuple #[.slice oa l.length oc, .bool false]) (by simp [results, Try.results45, go_sem]) rfl ?_
      exact ⟨(l, false), _, Or.inl ⟨i, hi', HID.out, by unfold setAt; rw [hnm]; rfl⟩, rfl, HROW.out _ (Below.refl _ _), HB1.out⟩
    · go_wp2_with fail
      refine (l1Ok_all false 3 (by omega) k t _ _ w3 (HV.out _ HK1.out)).mono ?_
      rintro e w4 ⟨rfl, hb4⟩
      cases hok : okB false 3 t
      · go_wp2_with fail
        refine bodyPost_ret (v := .tuple #[.slice oa l.length oc, .bool false]) (by simp [results, Try.results45, go_sem]) rfl ?_
        exact ⟨(l, false), _, Or.inl ⟨i, hi', HID.out, by unfold setAt; rw [hnm, hok]; rfl⟩, rfl, HROW.out _ hb4, HB1.out.trans (hb4.mono HB1.out.size)⟩
      · have HC4 : Hid (CopyingN k l W0 w4 oa oc l.length xs lo hi) := HC.out.on hb4
        obtain ⟨g, p, n, p', n', hoa, hg0, hgl, hcell, hfz, hlo, hhi, hgap, hVI, hTop, hxs⟩ := HC4.out.node i hi'
        subst hoa
        obtain ⟨c0, c1, c2, c3, c4, c5, c6⟩ := hcell.seven
        have hb4s := hb4.size
        have HO4 : Hid (Owns w4 w.heap.size #[.int .i64 t.kind, .int .i64 t.num, .string t.text, .slice va t.list.length vc, .slice va' t.names.length vc'] 29) := HO1.out.same (hb4.block _ HO1.out.lt)
        have HB4 : Hid (Below w.heap.size w w4) := HB1.out.trans (hb4.mono HB1.out.size)
        have hili : (i : Int) < (l.length : Int) := by omega
        have HVI : Hid _ := hVI
        have HTOP : Hid _ := hTop
        have HXS : Hid _ := hxs
        have HNL : Hid (l[i].cells.names.length = l[i].cells.list.length) := hnl i hi'
        clear hcell hVI hTop hxs x0 x1 x2 x3 x4 HC HO1 HB1 HK1 hnl
        go_wp2_with fail
        obtain ⟨w5, hw5⟩ : ∃ W, W = w4.alloc (Obj.cells #[.int .i64 l[i].cells.kind, .int .i64 l[i].cells.num, .string l[i].cells.text, .slice p l[i].cells.list.length n, .slice p' l[i].cells.names.length n'] 29) := ⟨_, rfl⟩
        rw [← hw5]
        have hz5 : w5.heap.size = w4.heap.size + 1 := by rw [hw5]; simp
        have hb5 : Below w4.heap.size w4 w5 := by rw [hw5]; exact (Below.refl _ _).alloc (Nat.le_refl _) _
        have HX5 : Hid (Owns w5 w4.heap.size #[.int .i64 l[i].cells.kind, .int .i64 l[i].cells.num, .string l[i].cells.text, .slice p l[i].cells.list.length n, .slice p' l[i].cells.names.length n'] 29) := by rw [hw5]; exact Owns.made _ _ _
        have HC5 : Hid (CopyingN k l W0 w5 (some ⟨g, 0, none⟩) oc l.length xs lo hi) := HC4.out.on hb5
        have HO5 : Hid (Owns w5 w.heap.size #[.int .i64 t.kind, .int .i64 t.num, .string t.text, .slice va t.list.length vc, .slice va' t.names.length vc'] 29) := HO4.out.same (hb5.block _ HO4.out.lt)
        have HB5 : Hid (Below w.heap.size w w5) := HB4.out.trans (hb5.mono HB4.out.size)
        have HK5 : Hid (Keeps 0 w w5) := Keeps.of_below HB5.out (Nat.le_refl _) _
        have HTOP5 : Hid (Top w5 (lo i + 3) (hi i) k l[i].cells (.slice p l[i].cells.list.length n) (.slice p' l[i].cells.names.length n')) := Top.same HTOP.out (fun b _ h2 => hb5.block b (by omega))
        obtain ⟨_, _, hv5, hkd, hnm5, htx, hrow5, hstr5⟩ := VlI.read (VlI.same (w' := w5) HVI.out (fun b _ h2 => hb5.block b (by omega)))
        simp only [List.cons.injEq, true_and, and_true] at hv5
        obtain ⟨rfl, rfl⟩ := hv5
        obtain ⟨na, nc, hv6, hnw, hnrest⟩ := StrRow.len hstr5
        simp only [Value.slice.injEq, true_and] at hv6
        obtain ⟨rfl, rfl⟩ := hv6
        obtain ⟨_, _, _, hlw, _⟩ := Row.len hrow5
        have HN5 : Hid _ := hnrest
        have HSZ : Hid (I64 l[i].cells.kind ∧ I64 l[i].cells.num ∧ l[i].cells.text.size ≤ 140737488351232 ∧ l[i].cells.list.length * 80 ≤ 140737488351232 ∧ l[i].cells.names.length * 16 ≤ 140737488351232 ∧ ∀ (m : Nat) (h : m < l[i].cells.names.length), l[i].cells.names[m].size ≤ 140737488351232) := ⟨hkd, hnm5, htx, hlw, hnw, fun m hm => by
          obtain ⟨_, _, _, _, hh⟩ := hnrest (List.ne_nil_of_length_pos (by omega))
          exact (hh m hm).2⟩
        have y3 : w5.cell? ⟨w4.heap.size, 3, none⟩ = some (.slice p l[i].cells.list.length n) := by rw [HX5.out.cell]; rfl
        have y4 : w5.cell? ⟨w4.heap.size, 4, none⟩ = some (.slice p' l[i].cells.names.length n') := by rw [HX5.out.cell]; rfl
        have x0 : w5.cell? ⟨w.heap.size, 0, none⟩ = some (.int .i64 t.kind) := by rw [HO5.out.cell]; rfl
        have x1 : w5.cell? ⟨w.heap.size, 1, none⟩ = some (.int .i64 t.num) := by rw [HO5.out.cell]; rfl
        have x2 : w5.cell? ⟨w.heap.size, 2, none⟩ = some (.string t.text) := by rw [HO5.out.cell]; rfl
        have x3 : w5.cell? ⟨w.heap.size, 3, none⟩ = some (.slice va t.list.length vc) := by rw [HO5.out.cell]; rfl
        have x4 : w5.cell? ⟨w.heap.size, 4, none⟩ = some (.slice va' t.names.length vc') := by rw [HO5.out.cell]; rfl
        have hnlen : (l[i].cells.names.length : Int) ≤ 140737488351232 := by omega
        have hllen : (l[i].cells.list.length : Int) ≤ 140737488351232 := by omega
        clear hw5 HC4 HO4 HB4 HVI HTOP hrow5 hstr5 hnrest c0 c1 c2 c3 c4 c5 c6 hkd hnm5 htx hnw hlw
        go_loop [13] (fun iv => ∃ j : Nat, j ≤ l[i].cells.names.length ∧ iv = .int .i64 j ∧ Hid (∀ (m : Nat) (h : m < l[i].cells.names.length), m < j → (l[i].cells.names[m].toList == s.toList) = false)) (fun iv => l[i].cells.names.length - (intOf iv).toNat)
        case atStart => exact ⟨0, Nat.zero_le _, rfl, fun _ _ h => absurd h (Nat.not_lt_zero _)⟩
        case round =>
          obtain ⟨j, hj, rfl, HNO⟩ := hrel
          have hjl : (j : Int) ≤ 140737488351232 := by omega
          by_cases hlt : j < l[i].cells.names.length
          · have hlti : (j : Int) < (l[i].cells.names.length : Int) := by omega
            have hltl : j < l[i].cells.list.length := by have := HNL.out; omega
            have hltl' : (j : Int) < (l[i].cells.list.length : Int) := by omega
            obtain ⟨nb, noff, rfl, _, hnn⟩ := HN5.out (List.ne_nil_of_length_pos (by omega))
            have hnj := (hnn j hlt).1
            obtain ⟨gl, rfl, hgl1, hgl2, hglf, hglu⟩ := HTOP5.out.slots hltl
            clear hnn
            cases heb : (l[i].cells.names[j].toList == s.toList)
            · have HNO2 : Hid (∀ (m : Nat) (h : m < l[i].cells.names.length), m < j + 1 → (l[i].cells.names[m].toList == s.toList) = false) := fun m h hm => by
                rcases Nat.lt_succ_iff_lt_or_eq.1 hm with h1 | rfl
                · exact HNO.out m h h1
                · exact heb
              go_wp2_with fail
              exact ⟨⟨j + 1, by omega, by go_num, HNO2⟩, by simp [intOf]; omega⟩
            · have HE : Hid ((l[i].cells.names[j].toList == s.toList) = true) := heb
              obtain ⟨u0, z0⟩ := hglu 0 (by omega)
              obtain ⟨u1, z1⟩ := hglu 1 (by omega)
              obtain ⟨u2, z2⟩ := hglu 2 (by omega)
              obtain ⟨u3, z3⟩ := hglu 3 (by omega)
              obtain ⟨u4, z4⟩ := hglu 4 (by omega)
              simp only [Nat.add_zero] at z0
              have HCALL : Hid (Calls Try.prog 26 #[.agg #[.int .i64 t.kind, .int .i64 t.num, .string t.text, .slice va t.list.length vc, .slice va' t.names.length vc']] w5.drew (fun e w6 => ∃ p1 n1 p1' n1', e = .returned (.agg #[.int .i64 t.kind, .int .i64 t.num, .string t.text, .slice p1 t.list.length n1, .slice p1' t.names.length n1']) ∧
                  w6.cell? ⟨w4.heap.size, 3, none⟩ = some (.slice (some ⟨gl, 0, none⟩) l[i].cells.list.length n) ∧ w6.cell? ⟨w.heap.size, 0, none⟩ = some (.int .i64 t.kind) ∧ w6.cell? ⟨w.heap.size, 1, none⟩ = some (.int .i64 t.num) ∧ w6.cell? ⟨w.heap.size, 2, none⟩ = some (.string t.text) ∧ w6.cell? ⟨w.heap.size, 3, none⟩ = some (.slice va t.list.length vc) ∧ w6.cell? ⟨w.heap.size, 4, none⟩ = some (.slice va' t.names.length vc') ∧ w6.cell? ⟨gl, j * 5, none⟩ = some u0 ∧ w6.cell? ⟨gl, j * 5 + 1, none⟩ = some u1 ∧ w6.cell? ⟨gl, j * 5 + 2, none⟩ = some u2 ∧ w6.cell? ⟨gl, j * 5 + 3, none⟩ = some u3 ∧ w6.cell? ⟨gl, j * 5 + 4, none⟩ = some u4 ∧ (∀ o, w6.frozen? ⟨gl, o, none⟩ = false) ∧ Hid (Below w5.heap.size w5 w6) ∧
                  Hid (VlI w6 w5.heap.size w6.heap.size k t [.int .i64 t.kind, .int .i64 t.num, .string t.text, .slice p1 t.list.length n1, .slice p1' t.names.length n1']))) := by
                refine (copy_all k t _ _ w5.drew (HV.out _ HK5.out.drew)).mono ?_
                rintro e w6 ⟨vl', vn', rfl, hI, hb6⟩
                obtain ⟨p1, n1, p1', n1', rfl, rfl⟩ := hI.slices
                have hb6' : Below w5.heap.size w5 w6 := ((Below.refl _ w5).drew).trans hb6
                exact ⟨p1, n1, p1', n1', rfl, cell_on hb6' y3, cell_on hb6' x0, cell_on hb6' x1, cell_on hb6' x2, cell_on hb6' x3, cell_on hb6' x4, cell_on hb6' z0, cell_on hb6' z1, cell_on hb6' z2, cell_on hb6' z3, cell_on hb6' z4, fun o => (hb6'.frozen (p := ⟨gl, o, none⟩) (by show gl < _; omega)).trans (hglf o), hb6', hI⟩
              have nXL : w4.heap.size ≠ gl := by omega
              have nLX : gl ≠ w4.heap.size := by omega
              have nVL : w.heap.size ≠ gl := by omega
              have nLV : gl ≠ w.heap.size := by omega
              clear hglu hglf
              go_wp2_with fail
              go_region_held3 (fun w' => w'.cell? ⟨w4.heap.size, 3, none⟩ = some (.slice (some ⟨gl, 0, none⟩) l[i].cells.list.length n) ∧ w'.cell? ⟨w.heap.size, 0, none⟩ = some (.int .i64 t.kind) ∧ w'.cell? ⟨w.heap.size, 1, none⟩ = some (.int .i64 t.num) ∧ w'.cell? ⟨w.heap.size, 2, none⟩ = some (.string t.text) ∧ w'.cell? ⟨w.heap.size, 3, none⟩ = some (.slice va t.list.length vc) ∧ w'.cell? ⟨w.heap.size, 4, none⟩ = some (.slice va' t.names.length vc')) (go_keep) (first | (go_at_call 26; refine (Hid.out HCALL).mono ?_; rintro e w6 ⟨p1, n1, p1', n1', rfl, y3', x0', x1', x2', x3', x4', z0', z1', z2', z3', z4', hfz6, HB6, HI6⟩))
              have hC6 := HC5.out.on HB6.out
              have hz6 := HB6.out.size
              have hT6 : Top w6 (lo i + 3) (hi i) k l[i].cells (.slice (some ⟨gl, 0, none⟩) l[i].cells.list.length n) (.slice (some ⟨nb, noff, none⟩) l[i].cells.names.length n') := Top.same HTOP5.out (fun b _ h2 => HB6.out.block b (by omega))
              obtain ⟨q1, q2, q3, q4, q5, q6⟩ := HSZ.out
              have HROWF : Hid (NdRow (w6.setCells gl (j * 5) [.int .i64 t.kind, .int .i64 t.num, .string t.text, .slice p1 t.list.length n1, .slice p1' t.names.length n1']) w.heap.size (k + 1) (l.set i { l[i] with cells := { l[i].cells with list := l[i].cells.list.set j t } }) (.slice (some ⟨g, 0, none⟩) l.length oc)) :=
                CopyingN.put (cs := [.int .i64 t.kind, .int .i64 t.num, .string t.text, .slice p1 t.list.length n1, .slice p1' t.names.length n1']) hC6 (by omega) hi' HXS.out hT6 HW.out HL.out q1 q2 q3 q4 q5 q6 hltl rfl (VlR.base (by omega) _ _ _ (VlI.read (VlI.same HI6.out (fun b h1 h2 => setCells_other _ _ _ _ (by omega)))))
              have HBF : Hid (Below w.heap.size w (w6.setCells gl (j * 5) [.int .i64 t.kind, .int .i64 t.num, .string t.text, .slice p1 t.list.length n1, .slice p1' t.names.length n1'])) := Below.setCells (by omega) _ _ (HB5.out.trans (HB6.out.mono HB5.out.size))
              have HSET : Hid (SetI l id s t (l.set i { l[i] with cells := { l[i].cells with list := l[i].cells.list.set j t } }, true)) := Or.inl ⟨i, hi', HID.out, by unfold setAt; rw [hnm, hok, setV_hit hlt HE.out (fun m h hm => HNO.out m h hm)]; rfl⟩
              clear hC6 hT6 q1 q2 q3 q4 q5 q6 hz6
              go_wp2_with fail
              refine bodyPost_ret (v := .tuple #[.slice (some ⟨g, 0, none⟩) l.length oc, .bool true]) (by simp [results, Try.results45, go_sem]) rfl ?_
              exact ⟨_, _, HSET.out, rfl, HROWF.out, HBF.out⟩
          · have hlti : decide ((j : Int) < (l[i].cells.names.length : Int)) = false := decide_eq_false (by omega)
            have hmiss : ∀ (m : Nat) (h : m < l[i].cells.names.length), (l[i].cells.names[m].toList == s.toList) = false := fun m h => HNO.out m h (by omega)
            by_cases h12 : 12 ≤ l[i].cells.names.length
            · have h12i : (12 : Int) ≤ (l[i].cells.names.length : Int) := by omega
              have HSET : Hid (SetI l id s t (l, false)) := Or.inl ⟨i, hi', HID.out, by unfold setAt; rw [hnm, hok, setV_miss hmiss, if_pos h12]; rfl⟩
              have HRF : Hid (NdRow w5 w.heap.size (k + 1) l (.slice (some ⟨g, 0, none⟩) l.length oc)) := HROW.out _ (hb4.trans (hb5.mono hb4.size))
              clear hmiss
              go_wp2_with fail
              refine bodyPost_ret (v := .tuple #[.slice (some ⟨g, 0, none⟩) l.length oc, .bool false]) (by simp [results, Try.results45, go_sem]) rfl ?_
              exact ⟨_, _, HSET.out, rfl, HRF.out, HB5.out⟩
            · have h12f : decide ((12 : Int) ≤ (l[i].cells.names.length : Int)) = false := decide_eq_false (by omega)
              have HSET : Hid (SetI l id s t (l.set i { l[i] with cells := { l[i].cells with list := l[i].cells.list ++ [t], names := l[i].cells.names ++ [s] } }, true)) := Or.inl ⟨i, hi', HID.out, by unfold setAt; rw [hnm, hok, setV_miss hmiss, if_neg h12]; rfl⟩
              obtain ⟨mid, xl, t1, t2, t3, t4, t5, t6, t7⟩ := HTOP5.out
              have HT3 : Hid (w5.ownsRow (lo i + 3) 29 5 (.slice p l[i].cells.list.length n) l[i].cells.list.length xl) := t3
              have HT6 : Hid (w5.ownsRow mid 9 1 (.slice p' l[i].cells.names.length n') l[i].cells.names.length (l[i].cells.names.map Value.string)) := t6
              have HL1 : Hid (∀ b, (Value.slice p l[i].cells.list.length n).ownBlock = some b → lo i + 3 ≤ b ∧ b < mid) := fun b hb => ⟨(t3.lt b hb).1, t4 b hb⟩
              have HN1 : Hid (∀ b, (Value.slice p' l[i].cells.names.length n').ownBlock = some b → mid ≤ b ∧ b < hi i) := fun b hb => ⟨(t6.lt b hb).1, t7 b hb⟩
              have HKID : Hid (∀ (m : Nat) (h : m < l[i].cells.list.length), ∃ cs a b, cs.length = 5 ∧ (∀ q, q < 5 → xl[m * 5 + q]? = cs[q]?) ∧ lo i + 3 ≤ a ∧ b ≤ mid ∧ VlI w5 a b k l[i].cells.list[m] cs ∧ (∀ g, (Value.slice p l[i].cells.list.length n).ownBlock = some g → g < a ∨ b ≤ g)) := t5
              have HMID : Hid (lo i + 3 ≤ mid ∧ mid ≤ hi i) := ⟨t1, t2⟩
              have hmw : mid ≤ w5.heap.size := by omega
              have NG : Hid (some g ≠ (Value.slice p l[i].cells.list.length n).ownBlock) := fun he => by have := HL1.out g he.symm; omega
              have NN : Hid (some g ≠ (Value.slice p' l[i].cells.names.length n').ownBlock) := fun he => by have := HN1.out g he.symm; omega
              obtain ⟨i1, hj0, hy0, hy1, hy2⟩ := info_string
              obtain ⟨i0, hi0, hz0, hz1, hz2⟩ := info_impl_Value
              obtain ⟨g5, q5n, q5m, q5p, q5q, hoa5, _, hgl5, hcell5, hfz5, _⟩ := HC5.out.node i hi'
              simp only [Option.some.injEq, Addr.mk.injEq, and_true, true_and] at hoa5
              obtain rfl := hoa5
              obtain ⟨_, _, _, _, _, c5, c6⟩ := hcell5.seven
              have hnl12 : l[i].cells.names.length < 12 := by omega
              have hll12 : l[i].cells.list.length < 12 := by have := HNL.out; omega
              have HSS : Hid (s.size ≤ 140737488351232) := hs
              have HZ5 : Hid (w5.heap.size = w4.heap.size + 1) := hz5
              have hw45 : w4.heap.size < w5.heap.size := by omega
              have hw05 : w.heap.size < w5.heap.size := HO5.out.lt
              clear hmiss t1 t2 t3 t4 t5 t6 t7 hcell5 hz5
              go_wp2_with (at_builtin; go_loud (refine wpList_append_lies _ rfl _ _ _ rfl mid 9 i1 _ 1 16 Try.underlying23 hj0 hy0 hy1 hy2 rfl (by omega) (.slice p' l[i].cells.names.length n') l[i].cells.names.length (l[i].cells.names.map Value.string) rfl (HT6.out.alloc _) ⟨w5.heap.size, 0, none⟩ 1 1 [.string s] rfl rfl (World.news_of_block (cs := #[.string s]) (t := 9) (fr := (0, 0)) (heap_alloc_new w5 _)) (by simp [Value.oneCell']) (by omega) (by unfold maxLen; omega) (by omega) (by simp; omega) (w5.heap.size + 1) (by simp) ?_); intro gn cn w6 hown6 hgrow6 hat6 hlt6; have f6 : w6.cell? ⟨g, i * 7 + 6, none⟩ = some (.slice q5p l[i].cells.names.length q5q) := hgrow6.cell (a := ⟨g, i * 7 + 6, none⟩) ((World.cell?_alloc_lt _ _ _ hgl5).trans c6) NN.out; have f6f : w6.frozen? ⟨g, i * 7 + 6, none⟩ = false := (hgrow6.frozen_far ⟨g, i * 7 + 6, none⟩ (by simp; omega) NN.out).trans ((World.frozen?_of_block (w := w5) (Below.heap_alloc _ _ _ hgl5)).trans (hfz5 _)); have HOWN6 : Hid _ := hown6; have HGR6 : Hid _ := hgrow6; have HAT6 : Hid _ := hat6; clear hown6 hgrow6 hat6)
              obtain ⟨W6, hW6⟩ : ∃ W, W = w6.setCell ⟨g, i * 7 + 6, none⟩ (.slice (some ⟨gn, 0, none⟩) (l[i].cells.names.length + 1) cn) := ⟨_, rfl⟩
              have hW6' : w6.setCell ⟨g, i * 7 + 2 + 4, none⟩ (.slice (some ⟨gn, 0, none⟩) (l[i].cells.names.length + 1) cn) = W6 := hW6.symm
              rw [hW6']
              have hzg6 := HGR6.out.size
              simp at hzg6
              have hz6W : W6.heap.size = w6.heap.size := by rw [hW6]; simp [World.setCell]
              have hW6b : ∀ b, b < w5.heap.size → b ≠ g → some b ≠ (Value.slice p' l[i].cells.names.length n').ownBlock → W6.heap[b]? = w5.heap[b]? := fun b h1 h2 h3 => by
                rw [hW6, Below.heap_setCell _ _ _ _ h2, HGR6.out.block b (by simp; omega) h3, Below.heap_alloc _ _ _ h1]
              have nn0 : some w.heap.size ≠ (Value.slice p' l[i].cells.names.length n').ownBlock := fun he => by have := HN1.out _ he.symm; have := HMID.out; omega
              have nn4 : some w4.heap.size ≠ (Value.slice p' l[i].cells.names.length n').ownBlock := fun he => by have := HN1.out _ he.symm; have := HMID.out; omega
              have nX : w4.heap.size ≠ g := by omega
              have nV : w.heap.size ≠ g := by omega
              have nX' : g ≠ w4.heap.size := by omega
              have nV' : g ≠ w.heap.size := by omega
              have HX6 : Hid (Owns W6 w4.heap.size #[.int .i64 l[i].cells.kind, .int .i64 l[i].cells.num, .string l[i].cells.text, .slice p l[i].cells.list.length n, .slice p' l[i].cells.names.length n'] 29) := HX5.out.same (hW6b _ hw45 nX nn4)
              have HO6 : Hid (Owns W6 w.heap.size #[.int .i64 t.kind, .int .i64 t.num, .string t.text, .slice va t.list.length vc, .slice va' t.names.length vc'] 29) := HO5.out.same (hW6b _ hw05 nV nn0)
              have HB6 : Hid (Below w.heap.size w W6) := by
                have h1 : Below w.heap.size w w6 := (HB5.out.alloc HB5.out.size _).grown HGR6.out (by have := HB5.out.size; simp; omega) (fun b hb => by have := HN1.out b hb; have := HMID.out; omega)
                show Below _ _ _
                rw [hW6]
                exact h1.setCell (p := ⟨g, i * 7 + 6, none⟩) (by show w.heap.size ≤ g; omega) _
              have HC6 : Hid (∀ o, o ≠ i * 7 + 6 → W6.cell? ⟨g, o, none⟩ = w5.cell? ⟨g, o, none⟩) := fun o ho => by
                rw [hW6, cell_set_ne _ _ (Ne.symm ho)]
                exact World.cell?_of_block (w := w5) (a := ⟨g, o, none⟩) ((HGR6.out.block g (by simp; omega) NN.out).trans (Below.heap_alloc _ _ _ hgl5))
              have z5 : W6.cell? ⟨g, i * 7 + 5, none⟩ = some (.slice q5n l[i].cells.list.length q5m) := (HC6.out _ (by omega)).trans c5
              have HF6 : Hid (∀ o, W6.frozen? ⟨g, o, none⟩ = false) := fun o => by
                rw [hW6]
                have := (HGR6.out.frozen_far ⟨g, o, none⟩ (by simp; omega) NN.out).trans ((World.frozen?_of_block (w := w5) (Below.heap_alloc _ _ _ hgl5)).trans (hfz5 o))
                exact (World.frozen?_setCell _ _ _ _).trans this
              have HOL6 : Hid (W6.ownsRow (lo i + 3) 29 5 (.slice p l[i].cells.list.length n) l[i].cells.list.length xl) := ownsRow_in HT3.out (fun b hb _ => hW6b b (by have := HL1.out b hb; have := HMID.out; omega) (fun he => NG.out (by rw [he] at hb; exact hb.symm)) (fun he => by have := HL1.out b hb; have := HN1.out b he.symm; omega))
              have y3' : W6.cell? ⟨w4.heap.size, 3, none⟩ = some (.slice p l[i].cells.list.length n) := by rw [HX6.out.cell]; rfl
              have x0' : W6.cell? ⟨w.heap.size, 0, none⟩ = some (.int .i64 t.kind) := by rw [HO6.out.cell]; rfl
              have x1' : W6.cell? ⟨w.heap.size, 1, none⟩ = some (.int .i64 t.num) := by rw [HO6.out.cell]; rfl
              have x2' : W6.cell? ⟨w.heap.size, 2, none⟩ = some (.string t.text) := by rw [HO6.out.cell]; rfl
              have x3' : W6.cell? ⟨w.heap.size, 3, none⟩ = some (.slice va t.list.length vc) := by rw [HO6.out.cell]; rfl
              have x4' : W6.cell? ⟨w.heap.size, 4, none⟩ = some (.slice va' t.names.length vc') := by rw [HO6.out.cell]; rfl
              have hglW : g < W6.heap.size := by omega
              have hlo6 : lo i + 3 ≤ W6.heap.size := by have := HMID.out; omega
              have HCALL : Hid (Calls Try.prog 26 #[.agg #[.int .i64 t.kind, .int .i64 t.num, .string t.text, .slice va t.list.length vc, .slice va' t.names.length vc']] W6.drew (fun e w7 => ∃ p1 n1 p1' n1', e = .returned (.agg #[.int .i64 t.kind, .int .i64 t.num, .string t.text, .slice p1 t.list.length n1, .slice p1' t.names.length n1']) ∧
                  w7.cell? ⟨w4.heap.size, 3, none⟩ = some (.slice p l[i].cells.list.length n) ∧ w7.cell? ⟨w.heap.size, 0, none⟩ = some (.int .i64 t.kind) ∧ w7.cell? ⟨w.heap.size, 1, none⟩ = some (.int .i64 t.num) ∧ w7.cell? ⟨w.heap.size, 2, none⟩ = some (.string t.text) ∧ w7.cell? ⟨w.heap.size, 3, none⟩ = some (.slice va t.list.length vc) ∧ w7.cell? ⟨w.heap.size, 4, none⟩ = some (.slice va' t.names.length vc') ∧
                  w7.cell? ⟨g, i * 7 + 5, none⟩ = some (.slice q5n l[i].cells.list.length q5m) ∧ w7.frozen? ⟨g, i * 7 + 5, none⟩ = false ∧ lo i + 3 ≤ w7.heap.size ∧ g < w7.heap.size ∧ w4.heap.size < w7.heap.size ∧ w.heap.size < w7.heap.size ∧ Hid (w7.ownsRow (lo i + 3) 29 5 (.slice p l[i].cells.list.length n) l[i].cells.list.length xl) ∧ Hid (Below W6.heap.size W6 w7) ∧
                  Hid (VlI w7 W6.heap.size w7.heap.size k t [.int .i64 t.kind, .int .i64 t.num, .string t.text, .slice p1 t.list.length n1, .slice p1' t.names.length n1']))) := by
                refine (copy_all k t _ _ W6.drew (HV.out _ (Keeps.of_below HB6.out (Nat.le_refl _) 0).drew)).mono ?_
                rintro e w7 ⟨vl', vn', rfl, hI, hb7⟩
                obtain ⟨p1, n1, p1', n1', rfl, rfl⟩ := hI.slices
                have hb7' : Below W6.heap.size W6 w7 := ((Below.refl _ W6).drew).trans hb7
                exact ⟨p1, n1, p1', n1', rfl, cell_on hb7' y3', cell_on hb7' x0', cell_on hb7' x1', cell_on hb7' x2', cell_on hb7' x3', cell_on hb7' x4', cell_on hb7' z5, (hb7'.frozen (p := ⟨g, i * 7 + 5, none⟩) hglW).trans (HF6.out _), by have := hb7'.size; omega, by have := hb7'.size; omega, by have := hb7'.size; omega, by have := hb7'.size; omega, ownsRow_in HOL6.out (fun b hb _ => hb7'.block b (HOL6.out.lt b hb).2), hb7', hI⟩
              have HW6 : Hid (W6 = w6.setCell ⟨g, i * 7 + 6, none⟩ (.slice (some ⟨gn, 0, none⟩) (l[i].cells.names.length + 1) cn)) := hW6
              clear hW6 hW6' hzg6 hz6W hW6b nn0 nn4 HX6 HO6 HC6 HF6 HOL6 f6 f6f c5 c6 y3 y4 x0 x1 x2 x3 x4 hlt6 hfz5 hfz
              go_region_law (first
                  | (refine step_append_lies _ (by rfl) _ _ _ (by rfl) (lo i + 3) 29 i0 _ 5 80 Try.underlying27 hi0 hz0 hz1 hz2 rfl (by omega) (.slice p l[i].cells.list.length n) l[i].cells.list.length xl (by rfl) (HOWN7.out.alloc _)
                      ⟨w7.heap.size, 0, none⟩ 1 1 [.int .i64 t.kind, .int .i64 t.num, .string t.text, .slice p1 t.list.length n1, .slice p1' t.names.length n1'] (by rfl) (by rfl) (World.news_of_block (cs := #[.int .i64 t.kind, .int .i64 t.num, .string t.text, .slice p1 t.list.length n1, .slice p1' t.names.length n1']) (t := 29) (fr := (0, 0)) (heap_alloc_new w7 _)) (by simp [Value.oneCell'])
                      (by omega) (by unfold maxLen; omega) (by omega) (by simp; omega) (w7.heap.size + 1) (by simp) ?_; intro gl cl w8 hown8 hgrow8 hat8 hlt8; have f5' : w8.cell? ⟨g, i * 7 + 5, none⟩ = some (.slice q5n l[i].cells.list.length q5m) := hgrow8.cell (a := ⟨g, i * 7 + 5, none⟩) ((World.cell?_alloc_lt _ _ _ (cell_lt f5)).trans f5) NG.out; have f5f' : w8.frozen? ⟨g, i * 7 + 5, none⟩ = false := (hgrow8.frozen_far ⟨g, i * 7 + 5, none⟩ (by simp; omega) NG.out).trans ((World.frozen?_of_block (w := w7) (Below.heap_alloc _ _ _ (cell_lt f5))).trans f5f))
                  | (go_simp; go_at_call 26; refine (Hid.out HCALL).mono ?_; rintro e w7 ⟨p1, n1, p1', n1', rfl, y3, x0, x1, x2, x3, x4, f5, f5f, hsz7, hgl7, hw47, hw07, HOWN7, HB7, HI7⟩))
              all_goals
                obtain ⟨q1, q2, q3, q4, q5, q6⟩ := HSZ.out
                obtain ⟨hrowF, hbF⟩ := CopyingN.grown (cs := [.int .i64 t.kind, .int .i64 t.num, .string t.text, .slice p1 t.list.length n1, .slice p1' t.names.length n1']) HC5.out (B := w.heap.size) (by omega) hi' HMID.out HL1.out HN1.out HKID.out HW.out HL.out q1 q2 q3 (by omega) (by omega) q6 HSS.out HT3.out.1 rfl HOWN6.out HGR6.out HAT6.out HW6.out HB7.out HI7.out hown8 hgrow8 hat8
                have HROWF : Hid (NdRow (w8.setCell ⟨g, i * 7 + 2 + 3, none⟩ (.slice (some ⟨gl, 0, none⟩) (l[i].cells.list.length + 1) cl)) w.heap.size (k + 1) (l.set i { l[i] with cells := { l[i].cells with list := l[i].cells.list ++ [t], names := l[i].cells.names ++ [s] } }) (.slice (some ⟨g, 0, none⟩) l.length oc)) := hrowF
                have HBF : Hid (Below w.heap.size w (w8.setCell ⟨g, i * 7 + 2 + 3, none⟩ (.slice (some ⟨gl, 0, none⟩) (l[i].cells.list.length + 1) cl))) := HB0.out.trans hbF
                clear hrowF hbF hown8 hgrow8 hat8 q1 q2 q3 q4 q5 q6
                go_wp2_with fail
                refine bodyPost_ret (v := .tuple #[.slice (some ⟨g, 0, none⟩) l.length oc, .bool true]) (by simp [results, Try.results45, go_sem]) rfl ?_
                exact ⟨_, _, HSET.out, rfl, HROWF.out, HBF.out⟩
  · go_wp2_with fail
    refine bodyPost_ret (v := .tuple #[.slice oa l.length oc, .bool false]) (by simp [results, Try.results45, go_sem]) rfl ?_
    exact ⟨(l, false), _, Or.inr ⟨hno, rfl⟩, rfl, HROW.out _ (Below.refl _ _), HB1.out⟩

set_option maxHeartbeats 1000000 in
theorem specStoreSet_any (k : Nat) (l : List Nd) (t : Vl) (v vl vn : Value) (id : Int) (s : ByteArray) (w : World) (hs : s.size ≤ 140737488351232) (hrow : NdRow w 0 (k + 1) l v) (hv : VlR w 0 k t [.int .i64 t.kind, .int .i64 t.num, .string t.text, vl, vn]) :
    Calls Try.prog 17 #[v, .int .i64 id, .string s, .agg #[.int .i64 t.kind, .int .i64 t.num, .string t.text, vl, vn]] w fun e w' =>
      ∃ p rv, SetP l id s t p ∧ e = .returned (.tuple #[rv, .bool p.2]) ∧ NdRow w' w.heap.size (k + 1) p.1 rv ∧ Below w.heap.size w w' := by
  obtain ⟨a, cap, rfl, hw, _⟩ := Row.len hrow
  obtain ⟨va, vc, va', vc', hvv⟩ := hv.cells
  simp only [List.cons.injEq, true_and, and_true] at hvv
  obtain ⟨rfl, rfl⟩ := hvv
  have HR : Hid (∀ W, Keeps 0 w W → NdRow W 0 (k + 1) l (.slice a l.length cap)) := fun W h => hrow.keeps h
  have HV : Hid (∀ W, Keeps 0 w W → VlR W 0 k t [.int .i64 t.kind, .int .i64 t.num, .string t.text, .slice va t.list.length vc, .slice va' t.names.length vc']) := fun W h => VlR.keeps h _ _ _ hv
  clear hrow hv hw
  go_enter Try.func17, Try.ntmps17
  go_wp2_with fail
  obtain ⟨W0, hW0⟩ : ∃ W, W = w.alloc (Obj.cells #[.int .i64 t.kind, .int .i64 t.num, .string t.text, .slice va t.list.length vc, .slice va' t.names.length vc'] 29) := ⟨_, rfl⟩
  rw [← hW0]
  have hk0 : Keeps 0 w W0 := by rw [hW0]; exact (Keeps.refl _ _).alloc _
  have HO0 : Hid (Owns W0 w.heap.size #[.int .i64 t.kind, .int .i64 t.num, .string t.text, .slice va t.list.length vc, .slice va' t.names.length vc'] 29) := by rw [hW0]; exact Owns.made _ _ _
  have HB0 : Hid (Below w.heap.size w W0) := by rw [hW0]; exact (Below.refl _ _).alloc (Nat.le_refl _) _
  clear hW0
  refine (specStoreOk_any (k + 1) l _ W0 (HR.out _ hk0)).mono ?_
  rintro e w1 ⟨rfl, hb1⟩
  have HB1 : Hid (Below w.heap.size w w1) := HB0.out.trans (hb1.mono HB0.out.size)
  have HO1 : Hid (Owns w1 w.heap.size #[.int .i64 t.kind, .int .i64 t.num, .string t.text, .slice va t.list.length vc, .slice va' t.names.length vc'] 29) := HO0.out.below hb1 HO0.out.lt
  have HK1 : Hid (Keeps 0 w w1) := Keeps.of_below HB1.out (Nat.le_refl _) _
  clear hb1 hk0 HB0 HO0
  cases hst : storeB l
  · have HP : Hid (SetP l id s t ([], false)) := Or.inr ⟨hst, rfl⟩
    clear hst
    go_wp2_with fail
    refine bodyPost_ret (v := .tuple #[.slice (some ⟨w1.heap.size, 0, none⟩) 0 0, .bool false]) (by simp [results, Try.results17, go_sem]) rfl ?_
    exact ⟨([], false), _, HP.out, rfl, Or.inr ⟨⟨w1.heap.size, 0, none⟩, 0, rfl, Nat.le_refl _, Nat.zero_le _, by simp, fun i h => absurd h (Nat.not_lt_zero _)⟩, HB1.out.alloc HB1.out.size _⟩
  · have x0 : w1.cell? ⟨w.heap.size, 0, none⟩ = some (.int .i64 t.kind) := by rw [HO1.out.cell]; rfl
    have x1 : w1.cell? ⟨w.heap.size, 1, none⟩ = some (.int .i64 t.num) := by rw [HO1.out.cell]; rfl
    have x2 : w1.cell? ⟨w.heap.size, 2, none⟩ = some (.string t.text) := by rw [HO1.out.cell]; rfl
    have x3 : w1.cell? ⟨w.heap.size, 3, none⟩ = some (.slice va t.list.length vc) := by rw [HO1.out.cell]; rfl
    have x4 : w1.cell? ⟨w.heap.size, 4, none⟩ = some (.slice va' t.names.length vc') := by rw [HO1.out.cell]; rfl
    have HST : Hid (storeB l = true) := hst
    clear hst
    go_wp2_with fail
    refine (l5Set_any k l t _ _ _ id s w1 hs (store_len HST.out) (fun i hi => by obtain ⟨h1, h2⟩ := store_cells HST.out i hi; exact ok_tree_names h1 h2) (HR.out _ HK1.out) (HV.out _ HK1.out)).mono ?_
    rintro e w2 ⟨p, rv, hset, rfl, hrow2, hb2⟩
    have HF : Hid (SetP l id s t p ∧ NdRow w2 w.heap.size (k + 1) p.1 rv ∧ Below w.heap.size w w2) := ⟨Or.inl ⟨HST.out, hset⟩, NdRow.base HB1.out.size hrow2, HB1.out.trans (hb2.mono HB1.out.size)⟩
    obtain ⟨ra, rn, rc, rfl⟩ := Row.slice hrow2
    clear hset hrow2 hb2
    go_wp2_with fail
    refine bodyPost_ret (v := .tuple #[.slice ra rn rc, .bool p.2]) (by simp [results, Try.results17, go_sem]) rfl ?_
    exact ⟨p, _, HF.out.1, rfl, HF.out.2⟩

end Go.Proofs.Ytehdepnemdbopaa
