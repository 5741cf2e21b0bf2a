
/-
  DERIVED. THE WALK OF impl.storeOf.
-/
import Derived.Test.YthhnhigaoncakaaStCe
import Derived.Test.YthhnhigaoncakaaVlInfo
import Derived.Deep.AppendLies
import Derived.BigQuiet
import Derived.Deep.Cut
import Derived.Deep.CutRange
namespace Go.Proofs.Ythhnhigaoncakaa
open Go.RowKit
set_option linter.unusedVariables false
set_option linter.unusedSimpArgs false

theorem info_row : ∃ i, Try.prog.info? 77 = some i ∧ i.zero = some (.agg #[.int .i64 0, .string ByteArray.empty, .slice none 0 0]) ∧ i.size = 3 ∧ i.bytes = 48 := by
  have h : (Try.prog.info? 77).map (fun i => (i.zero, i.size, i.bytes)) = some (some (.agg #[.int .i64 0, .string ByteArray.empty, .slice none 0 0]), 3, 48) := by kernel_rfl
  obtain ⟨i, h1, h2⟩ := Option.map_eq_some_iff.1 h
  simp only [Prod.mk.injEq] at h2
  exact ⟨i, h1, h2.1, h2.2.1, h2.2.2⟩

theorem own_slice {w : World} {base n size : Nat} {e : TypeId} {v : Value} {xs : List Value} (h : w.ownsRow base e size v n xs) : ∃ a c, v = .slice a n c := by
  rcases h.2 with ⟨rfl, rfl⟩ | ⟨g, cap, cur, rfl, _⟩
  · exact ⟨_, _, rfl⟩
  · exact ⟨_, _, rfl⟩

theorem heap_alloc_newS (w : World) (o : Obj) : (w.alloc o).heap[w.heap.size]? = some o := by
  show (w.heap.push o)[w.heap.size]? = _
  simp
theorem Owns.sameO {w w' : World} {b : Nat} {c : Array Value} {e : TypeId} (h : Owns w b c e) (hb : w'.heap[b]? = w.heap[b]?) : Owns w' b c e := by
  unfold Owns at h ⊢; rw [hb]; exact h
/-- What impl.storeOf answers. -/
def SoC (k : Nat) (l : List Nd) (w : World) (e : Ending) (w' : World) : Prop :=
  ∃ a n c, e = .returned (.tuple #[.agg #[.slice a n c], .bool (storeB l)]) ∧ (storeB l = true → ThRow w' k l (.slice a n c)) ∧ Below w.heap.size w w'
theorem SoC.no {k : Nat} {l : List Nd} {w w' : World} {e : Ending} (he : e = .returned (.tuple #[.agg #[.slice none 0 0], .bool false])) (hn : storeB l = false) (hb : Below w.heap.size w w') : SoC k l w e w' := by
  subst he
  exact ⟨none, 0, 0, by rw [hn], fun h => by rw [hn] at h; simp at h, hb⟩

theorem node_low {l : List Nd} (h0 : ∀ (h : 0 < l.length), (l[0]'h).id = 0) : ∀ {j : Nat} (hj : j < l.length), (∀ (m : Nat) (h : m < l.length), m < j → nodeB l m l[m] = true) → aboveB l j l[j].id = true → 0 ≤ l[j].id := by
  intro j hj hall hab
  by_cases hz : j = 0
  · subst hz
    rw [h0 hj]; exact Int.le_refl _
  · rw [above_succ hj (by omega)] at hab
    have h1 := of_decide_eq_true hab
    have h2 := hall (j - 1) (by omega) (by omega)
    simp only [nodeB, Bool.and_eq_true, decide_eq_true_eq] at h2
    have := h2.1.1.1.1.1
    omega

set_option maxHeartbeats 4000000 in
theorem storeOf_any (k : Nat) (l : List Nd) (v : Value) (w : World) (hrow : NdRow w 0 (k + 1) l v) :
    Calls Try.prog 17 #[v] w (SoC k l w) := by
  obtain ⟨a, cap, rfl, hw, hrest⟩ := Row.len hrow
  have hlen : (l.length : Int) ≤ 140737488351232 := by omega
  clear hrow
  by_cases hs1 : l.length < 1
  · have h1 : (l.length : Int) < 1 := by omega
    have HN : Hid (storeB l = false) := store_long (by omega)
    clear hrest
    go_enter Try.func17, Try.ntmps17
    go_wp2_with fail
    exact bodyPost_ret (v := .tuple #[.agg #[.slice none 0 0], .bool false]) (by simp [results, Try.results17, go_sem]) rfl (SoC.no rfl HN.out ((Below.refl _ _).alloc (Nat.le_refl _) _))
  by_cases hs2 : 12 < l.length
  · have h1 : decide ((l.length : Int) < 1) = false := decide_eq_false (by omega)
    have h2 : (12 : Int) < (l.length : Int) := by omega
    have HN : Hid (storeB l = false) := store_long (by omega)
    clear hrest
    go_enter Try.func17, Try.ntmps17
    go_wp2_with fail
    exact bodyPost_ret (v := .tuple #[.agg #[.slice none 0 0], .bool false]) (by simp [results, Try.results17, go_sem]) rfl (SoC.no rfl HN.out ((Below.refl _ _).alloc (Nat.le_refl _) _))
  have h1 : decide ((l.length : Int) < 1) = false := decide_eq_false (by omega)
  have h2 : decide ((12 : Int) < (l.length : Int)) = false := decide_eq_false (by omega)
  obtain ⟨b, off, rfl, _, hcs⟩ := hrest (List.ne_nil_of_length_pos (by omega))
  have hl0 : (0 : Int) < (l.length : Int) := by omega
  have hl0n : 0 < l.length := by omega
  have hl12 : l.length ≤ 12 := by omega
  have HC0 : Hid (w.cell? ⟨b, off, none⟩ = some (.int .i64 (l[0]'hl0n).id) ∧ w.cell? ⟨b, off + 1, none⟩ = some (.string (l[0]'hl0n).type) ∧ b < w.heap.size) := by
    obtain ⟨cs, _, hc, hR⟩ := hcs 0 hl0n
    obtain ⟨p, n, p', n', rfl⟩ := hR.cells
    obtain ⟨c0, c1, _⟩ := hc.seven
    rw [Nat.zero_mul, Nat.add_zero] at c0 c1
    exact ⟨c0, c1, cell_lt c0⟩
  have HHD : Hid (headB l = (decide ((l[0]'hl0n).id = 0) && ((l[0]'hl0n).type.toList == queryText.toList))) := head_eq hl0n
  by_cases hz : (l[0]'hl0n).id = 0
  case neg =>
    have HN : Hid (storeB l = false) := store_head (by rw [HHD.out, decide_eq_false hz]; rfl)
    have hzb : ((l[0]'hl0n).id != 0) = true := by simpa using hz
    obtain ⟨c0, c1, hb⟩ := HC0.out
    clear hcs HHD HC0 hrest
    go_enter Try.func17, Try.ntmps17
    go_wp2_with fail
    exact bodyPost_ret (v := .tuple #[.agg #[.slice none 0 0], .bool false]) (by simp [results, Try.results17, go_sem]) rfl (SoC.no rfl HN.out ((Below.refl _ _).alloc (Nat.le_refl _) _))
  have HZ : Hid ((l[0]'hl0n).id = 0) := hz
  have HZ2 : Hid (headB l = ((l[0]'hl0n).type.toList == [81, 117, 101, 114, 121])) := by show _ = _; rw [HHD.out, decide_eq_true hz, query_list]; rfl
  have HC1 : Hid (w.cell? ⟨b, off, none⟩ = some (.int .i64 0) ∧ w.cell? ⟨b, off + 1, none⟩ = some (.string (l[0]'hl0n).type) ∧ b < w.heap.size) := by have := HC0.out; rw [hz] at this; exact this
  clear hz HHD HC0
  cases hq : ((l[0]'hl0n).type.toList == [81, 117, 101, 114, 121])
  · have HN : Hid (storeB l = false) := store_head (by rw [HZ2.out, hq])
    have hqb : ((l[0]'hl0n).type.toList != [81, 117, 101, 114, 121]) = true := by simp only [bne, hq]; rfl
    obtain ⟨c0, c1, hb⟩ := HC1.out
    clear hcs hrest
    go_enter Try.func17, Try.ntmps17
    go_wp2_with fail
    exact bodyPost_ret (v := .tuple #[.agg #[.slice none 0 0], .bool false]) (by simp [results, Try.results17, go_sem]) rfl (SoC.no rfl HN.out ((Below.refl _ _).alloc (Nat.le_refl _) _))
  have hqb : ((l[0]'hl0n).type.toList != [81, 117, 101, 114, 121]) = false := by simp only [bne, hq]; rfl
  have HHD : Hid (headB l = true) := by show _ = _; rw [HZ2.out, hq]
  obtain ⟨c0, c1, hb⟩ := HC1.out
  have HCS : Hid (∀ (j : Nat) (h : j < l.length), ∃ cs, cs.length = 7 ∧ CellsAt w b (off + j * 7) cs ∧ NdR w 0 (k + 1) l[j] cs) := hcs
  clear hcs hrest HC1 HZ2
  go_enter Try.func17, Try.ntmps17
  go_wp2_with fail
  clear c0 c1
  go_loopw [35] (fun i wr => ∃ j : Nat, j ≤ l.length ∧ i = .int .i64 j ∧ Hid (∀ (m : Nat) (h : m < l.length), m < j → nodeB l m l[m] = true) ∧ Hid (Below w.heap.size w wr) ∧ Hid (Owns wr w.heap.size #[.slice none 0 0] 49) ∧ Hid (w.heap.size + 2 ≤ wr.heap.size) ∧ ∃ ov xs, Hid (Owns wr (w.heap.size + 1) #[ov] 49) ∧ Hid (Tb wr (w.heap.size + 2) k (l.take j) ov xs)) (fun i _ => l.length - (intOf i).toNat)
  case atStart =>
    refine ⟨0, Nat.zero_le _, rfl, (fun _ _ h => absurd h (Nat.not_lt_zero _)), ((Below.refl _ _).alloc (Nat.le_refl _) _).alloc (by simp) _, ?_, ?_, .slice none 0 0, [], ?_, Tb.nil _ _ _⟩
    · exact Owns.below (Owns.made w _ _) ((Below.refl _ _).alloc (Nat.le_refl _) _) (by simp)
    · show _ ≤ _; simp
    · have := Owns.made (w.alloc (Obj.cells #[.slice none 0 0] 49)) #[.slice none 0 0] 49
      rw [size_alloc1c] at this
      exact this
  case round =>
    clear hq hqb
    obtain ⟨j, hj, rfl, HALL, HB, HO0, HSZ, ov, xs, HOV, HTB⟩ := hrel
    have hjl : (j : Int) ≤ 140737488351232 := by omega
    by_cases hlt : j < l.length
    · have hlti : (j : Int) < (l.length : Int) := by omega
      obtain ⟨cs, _, hc, hR⟩ := HCS.out j hlt
      obtain ⟨p, n, p', n', rfl⟩ := hR.cells
      have hk : Keeps 0 w wr := Keeps.of_below HB.out (Nat.le_refl _) _
      obtain ⟨c0, c1, c2, c3, c4, c5, c6⟩ := (hc.keeps hk (Nat.zero_le _)).seven
      obtain ⟨_, _, hv, hid, hty, hV⟩ := hR
      simp only [List.cons.injEq, true_and, and_true] at hv
      obtain ⟨rfl, rfl⟩ := hv
      obtain ⟨W, hW⟩ : ∃ W, W = wr.alloc (Obj.cells #[.int .i64 l[j].id, .string l[j].type, .int .i64 l[j].cells.kind, .int .i64 l[j].cells.num, .string l[j].cells.text, .slice p l[j].cells.list.length n, .slice p' l[j].cells.names.length n'] 44) := ⟨_, rfl⟩
      have HO : Hid (Owns W wr.heap.size #[.int .i64 l[j].id, .string l[j].type, .int .i64 l[j].cells.kind, .int .i64 l[j].cells.num, .string l[j].cells.text, .slice p l[j].cells.list.length n, .slice p' l[j].cells.names.length n'] 44) := by rw [hW]; exact Owns.made _ _ _
      have HBW : Hid (Below w.heap.size w W) := by rw [hW]; exact HB.out.alloc HB.out.size _
      have hWs : W.heap.size = wr.heap.size + 1 := by rw [hW]; simp
      have HWb : Hid (∀ q, q < wr.heap.size → W.heap[q]? = wr.heap[q]?) := fun q hq => by rw [hW]; exact Below.heap_alloc _ _ _ hq
      have HVL : Hid (∀ W', Keeps 0 W W' → VlR W' 0 (k + 1) l[j].cells [.int .i64 l[j].cells.kind, .int .i64 l[j].cells.num, .string l[j].cells.text, .slice p l[j].cells.list.length n, .slice p' l[j].cells.names.length n']) := fun W' h => VlR.keeps ((Keeps.of_below HBW.out (Nat.le_refl _) _).trans h) _ _ _ hV
      have hty' : l[j].type.size ≤ maxLen := by unfold maxLen; omega
      have HP : Hid (0 < j → W.cell? ⟨b, off + (j - 1) * 7, none⟩ = some (.int .i64 (l[j - 1]'(by omega)).id)) := fun h => by
        obtain ⟨cs, _, hc', hR'⟩ := HCS.out (j - 1) (by omega)
        obtain ⟨p, n, p', n', rfl⟩ := hR'.cells
        have hkW : Keeps 0 w W := Keeps.of_below HBW.out (Nat.le_refl _) _
        exact (hc'.keeps hkW (Nat.zero_le _)).seven.1
      have HND : Hid (nodeB l j l[j] = (decide (0 ≤ l[j].id ∧ l[j].id ≤ 2147483647) && nameB l[j].type.data.toList && decide (l[j].cells.kind = 5) && okB false 4 l[j].cells && aboveB l j l[j].id)) := rfl
      have HLOW : Hid (aboveB l j l[j].id = true → 0 ≤ l[j].id) := node_low (fun _ => HZ.out) hlt HALL.out
      clear hc hV hk hid hty
      go_upto_region 7 with fail
      rw [← hW]
      clear c0 c1 c2 c3 c4 c5 c6
      have HW : Hid _ := hW
      clear hW
      have x0 : W.cell? ⟨wr.heap.size, 0, none⟩ = some (.int .i64 l[j].id) := by rw [HO.out.cell]; rfl
      -- whether the number is above the one ahead
      go_cut [7] from 40 to 52 (fun v7 wx => v7 = .bool (aboveB l j l[j].id) ∧ Hid (Below W.heap.size W wx ∧ wx.heap = W.heap))
      case first =>
        by_cases hj0 : j = 0
        · have hjd : decide ((j : Int) = 0) = true := decide_eq_true (by omega)
          have hjb : ((j : Int) == 0) = true := by simp; omega
          have HAB : Hid (aboveB l j l[j].id = true) := by
            have h1 : ∀ n, aboveB l j n = true := fun n => by rw [hj0]; exact above_zero _ _
            exact h1 _
          have hjn : (j == 0) = true := by simp; omega
          have hjnd : decide (j = 0) = true := decide_eq_true hj0
          clear hj0 HP
          go_quiet (fail)
          go_wp2_with fail
          go_meet
          case rel => exact ⟨by rw [HAB.out], ⟨rfl, rfl, rfl, Nat.le_refl _, fun _ _ => rfl⟩, rfl⟩
        · have hj1 : 0 < j := by omega
          have y0 := HP.out hj1
          obtain ⟨yid, hyid⟩ : ∃ yid, (l[j - 1]'(by omega)).id = yid := ⟨_, rfl⟩
          rw [hyid] at y0
          have HAB : Hid (aboveB l j l[j].id = decide (yid < l[j].id)) := by show _ = _; rw [above_succ hlt hj1, hyid]
          have hjd : decide ((j : Int) = 0) = false := decide_eq_false (by omega)
          have hjb : ((j : Int) == 0) = false := by simp; omega
          have hjn : (j == 0) = false := by simp; omega
          have hjnd : decide (j = 0) = false := decide_eq_false hj0
          have hjq : (j : Int) - 1 = ((j - 1 : Nat) : Int) := by omega
          have hjb1 : ((j - 1 : Nat) : Int) < (l.length : Int) := by omega
          have hjb0 : (0 : Int) ≤ (j : Int) - 1 := by omega
          have hjb2 : (j : Int) - 1 < (l.length : Int) := by omega
          clear hyid
          go_quiet (fail)
          go_wp2_with fail
          go_meet
          case rel => exact ⟨by rw [HAB.out], ⟨rfl, rfl, rfl, Nat.le_refl _, fun _ _ => rfl⟩, rfl⟩
      case rest =>
        obtain ⟨rfl, hcw, hce⟩ := hcut
        have hcs : wc.heap.size = wr.heap.size + 1 := by rw [hce]; exact hWs
        have HOc : Hid (Owns wc wr.heap.size #[.int .i64 l[j].id, .string l[j].type, .int .i64 l[j].cells.kind, .int .i64 l[j].cells.num, .string l[j].cells.text, .slice p l[j].cells.list.length n, .slice p' l[j].cells.names.length n'] 44) := HO.out.sameO (by rw [hce])
        have HBc : Hid (Below w.heap.size w wc) := HBW.out.trans (hcw.mono (by have := HBW.out.size; omega))
        have HWc : Hid (∀ q, q < wr.heap.size → wc.heap[q]? = wr.heap[q]?) := fun q hq => by rw [hce]; exact HWb.out q hq
        have HVc : Hid (VlR wc 0 (k + 1) l[j].cells [.int .i64 l[j].cells.kind, .int .i64 l[j].cells.num, .string l[j].cells.text, .slice p l[j].cells.list.length n, .slice p' l[j].cells.names.length n']) := HVL.out wc (Keeps.of_below hcw (Nat.le_refl _) _)
        clear hcw hce HO HBW HWb HVL HP x0 HW hWs
        have x2 : wc.cell? ⟨wr.heap.size, 2, none⟩ = some (.int .i64 l[j].cells.kind) := by rw [HOc.out.cell]; rfl
        have x3 : wc.cell? ⟨wr.heap.size, 3, none⟩ = some (.int .i64 l[j].cells.num) := by rw [HOc.out.cell]; rfl
        have x4 : wc.cell? ⟨wr.heap.size, 4, none⟩ = some (.string l[j].cells.text) := by rw [HOc.out.cell]; rfl
        have x5 : wc.cell? ⟨wr.heap.size, 5, none⟩ = some (.slice p l[j].cells.list.length n) := by rw [HOc.out.cell]; rfl
        have x6 : wc.cell? ⟨wr.heap.size, 6, none⟩ = some (.slice p' l[j].cells.names.length n') := by rw [HOc.out.cell]; rfl
        obtain ⟨bA, hbA⟩ : ∃ q, aboveB l j l[j].id = q := ⟨_, rfl⟩
        obtain ⟨bN, hbN⟩ : ∃ q, nameB l[j].type.data.toList = q := ⟨_, rfl⟩
        rw [hbA]
        rw [hbA, hbN] at HND
        rw [hbA] at HLOW
        have HNM : Hid (∀ W', Calls Try.prog 36 #[.string l[j].type] W' fun e w1 => e = .returned (.bool bN) ∧ W' = w1) := fun W' => by rw [← hbN]; exact (isName_any _ _ hty').mono (by rintro e w1 ⟨h1, h2⟩; exact ⟨h1, h2.symm⟩)
        clear hbA hbN hty'
        go_wp2_with fail
        refine (cellsOf_any k l[j].cells _ _ wc HVc.out).mono ?_
        rintro e w1 ⟨ta, tn, tc, rfl, hT, hb1⟩
        obtain ⟨bC, hbC⟩ : ∃ q, (okB false 4 l[j].cells && decide (l[j].cells.kind = 5)) = q := ⟨_, rfl⟩
        rw [hbC]
        have HND3 : Hid (nodeB l j l[j] = (decide (0 ≤ l[j].id ∧ l[j].id ≤ 2147483647) && bN && bC && bA)) := by
          show _ = _
          rw [HND.out, ← hbC]
          cases decide (0 ≤ l[j].id ∧ l[j].id ≤ 2147483647) <;> cases bN <;> cases okB false 4 l[j].cells <;> cases decide (l[j].cells.kind = 5) <;> rfl
        have HT : Hid (bC = true → TrJ w1 wc.heap.size w1.heap.size k l[j].cells (.slice ta tn tc)) := fun h => by
          rw [h, Bool.and_eq_true, decide_eq_true_eq] at hbC
          exact (hT hbC.1 hbC.2).2
        have HB1 : Hid (Below w.heap.size w w1) := HBc.out.trans (hb1.mono HBc.out.size)
        have HO1 : Hid (Owns w1 wr.heap.size #[.int .i64 l[j].id, .string l[j].type, .int .i64 l[j].cells.kind, .int .i64 l[j].cells.num, .string l[j].cells.text, .slice p l[j].cells.list.length n, .slice p' l[j].cells.names.length n'] 44) := HOc.out.below hb1 (by omega)
        have HW1 : Hid (∀ q, q < wr.heap.size → w1.heap[q]? = wr.heap[q]?) := fun q hq => (hb1.block q (by omega)).trans (HWc.out q hq)
        have hs1' : wr.heap.size + 1 ≤ w1.heap.size := by have := hb1.size; omega
        clear hT hb1 hbC HND HVc HOc HBc HWc x2 x3 x4 x5 x6
        have hw2 := HSZ.out
        have HR0 : Hid (Owns w1 w.heap.size #[.slice none 0 0] 49) := HO0.out.sameO (HW1.out _ (by omega))
        have x0 : w1.cell? ⟨wr.heap.size, 0, none⟩ = some (.int .i64 l[j].id) := by rw [HO1.out.cell]; rfl
        have x1 : w1.cell? ⟨wr.heap.size, 1, none⟩ = some (.string l[j].type) := by rw [HO1.out.cell]; rfl
        have r0 : w1.cell? ⟨w.heap.size, 0, none⟩ = some (.slice none 0 0) := by rw [HR0.out.cell]; rfl
        have rf : w1.frozen? ⟨w.heap.size, 0, none⟩ = false := HR0.out.frozen 0
        have hrl : w.heap.size < w1.heap.size := by omega
        cases bC
        · have HN : Hid (storeB l = false) := store_bad hlt (by rw [HND3.out]; simp)
          go_wp2_with fail
          exact bodyPost_ret (v := .tuple #[.agg #[.slice none 0 0], .bool false]) (by simp [results, Try.results17, go_sem, r0, hrl]) rfl (SoC.no rfl HN.out (HB1.out.setCell (by simp) _))
        cases bA
        · have HN : Hid (storeB l = false) := store_bad hlt (by rw [HND3.out]; simp)
          go_wp2_with fail
          exact bodyPost_ret (v := .tuple #[.agg #[.slice none 0 0], .bool false]) (by simp [results, Try.results17, go_sem, r0, hrl]) rfl (SoC.no rfl HN.out (HB1.out.setCell (by simp) _))
        have hlow := HLOW.out rfl
        have HTR : Hid (TrJ w1 wc.heap.size w1.heap.size k l[j].cells (.slice ta tn tc)) := HT.out rfl
        clear HT
        by_cases hnm : 2147483647 < l[j].id
        · have HN : Hid (storeB l = false) := store_bad hlt (by rw [HND3.out, decide_eq_false (by omega)]; rfl)
          go_wp2_with fail
          exact bodyPost_ret (v := .tuple #[.agg #[.slice none 0 0], .bool false]) (by simp [results, Try.results17, go_sem, r0, hrl]) rfl (SoC.no rfl HN.out (HB1.out.setCell (by simp) _))
        have hnmd : decide (2147483647 < l[j].id) = false := decide_eq_false hnm
        cases bN
        · have HN : Hid (storeB l = false) := store_bad hlt (by rw [HND3.out]; simp)
          go_wp2_with (go_at_call 36; refine (HNM.out _).mono ?_; rintro e w2 ⟨rfl, rfl⟩)
          exact bodyPost_ret (v := .tuple #[.agg #[.slice none 0 0], .bool false]) (by simp [results, Try.results17, go_sem, r0, hrl]) rfl (SoC.no rfl HN.out (HB1.out.setCell (by simp) _))
        have HALL2 : Hid (∀ (m : Nat) (h : m < l.length), m < j + 1 → nodeB l m l[m] = true) := fun m h hm => by
          rcases Nat.lt_succ_iff_lt_or_eq.1 hm with h1 | rfl
          · exact HALL.out m h h1
          · rw [HND3.out, decide_eq_true (by omega)]; rfl
        clear HND3 HALL HLOW hlow
        obtain ⟨oa, oc, hov⟩ := own_slice HTB.out.own
        have htk : (l.take j).length = j := by rw [List.length_take]; omega
        rw [htk] at hov
        subst hov
        have HV1 : Hid (Owns w1 (w.heap.size + 1) #[.slice oa j oc] 49) := HOV.out.sameO (HW1.out _ (by omega))
        have HTB1 : Hid (Tb w1 (w.heap.size + 2) k (l.take j) (.slice oa j oc) xs) := HTB.out.same (fun q _ h2 => HW1.out q h2) (by omega)
        have s0 : w1.cell? ⟨w.heap.size + 1, 0, none⟩ = some (.slice oa j oc) := by rw [HV1.out.cell]; rfl
        have sf : w1.frozen? ⟨w.heap.size + 1, 0, none⟩ = false := HV1.out.frozen 0
        have hsl : w.heap.size + 1 < w1.heap.size := by omega
        have HNE : Hid (some (w.heap.size + 1) ≠ (Value.slice oa j oc).ownBlock) := HTB1.out.far (by omega)
        have HOW : Hid (w1.ownsRow (w.heap.size + 2) 77 3 (.slice oa j oc) j xs) := by have := HTB1.out.own; rw [htk] at this; exact this
        obtain ⟨i0, hi0, hz0, hz1, hz2⟩ := info_row
        clear r0 rf
        go_wp2_with (first | (go_at_call 36; refine (HNM.out _).mono ?_; rintro e w2 ⟨rfl, rfl⟩) | (at_builtin; refine wpList_append_lies _ rfl _ _ _ rfl (w.heap.size + 2) 77 i0 _ 3 48 Try.underlying47 hi0 hz0 hz1 hz2 rfl (by omega) (.slice oa j oc) j xs rfl (HOW.out.alloc _) ⟨w1.heap.size, 0, none⟩ 1 1 [.int .i64 l[j].id, .string l[j].type, .slice ta tn tc] rfl rfl (World.news_of_block (cs := #[.int .i64 l[j].id, .string l[j].type, .slice ta tn tc]) (t := 77) (fr := (0, 0)) (heap_alloc_newS w1 _)) (by simp [Value.oneCell']) (by omega) (by unfold maxLen; omega) (by omega) (by simp; omega) (w1.heap.size + 1) (by simp) ?_; intro g' cap' W4 hown' hgrow hat hlt'; have e0 : W4.cell? ⟨w.heap.size + 1, 0, none⟩ = some (.slice oa j oc) := hgrow.cell (a := ⟨w.heap.size + 1, 0, none⟩) ((World.cell?_alloc_lt _ _ _ hsl).trans s0) HNE.out; have e0f : W4.frozen? ⟨w.heap.size + 1, 0, none⟩ = false := (hgrow.frozen_far ⟨w.heap.size + 1, 0, none⟩ (by simp; omega) HNE.out).trans ((World.frozen?_of_block (w := w1) (Below.heap_alloc _ _ _ hsl)).trans sf)))
        have hs4 : w1.heap.size + 1 ≤ W4.heap.size := by have := hgrow.size; simpa using this
        have h4 : ∀ q, q < w1.heap.size → some q ≠ (Value.slice oa j oc).ownBlock → W4.heap[q]? = w1.heap[q]? := fun q hq hqg => by
          rw [hgrow.block q (by simp; omega) hqg, Below.heap_alloc _ _ _ hq]
        have hg' : w.heap.size + 2 ≤ g' := by
          rcases hat with hat | hat
          · exact (HOW.out.lt g' hat).1
          · omega
        have HB4 : Hid (Below w.heap.size w W4) := by
          refine ⟨hgrow.os.trans HB1.out.os, hgrow.tape.trans HB1.out.tape, hgrow.output.trans HB1.out.output, by have := HB1.out.size; omega, fun q hq => ?_⟩
          rw [h4 q (by omega) (HTB1.out.far (by omega))]; exact HB1.out.block q hq
        have hlo : wc.heap.size = wr.heap.size + 1 := hcs
        have htk1 : l.take (j + 1) = l.take j ++ [l[j]] := List.take_succ_eq_append_getElem hlt
        have HTB4 : Hid (Tb W4 (w.heap.size + 2) k (l.take (j + 1)) (.slice (some ⟨g', 0, none⟩) (j + 1) cap') (xs ++ [.int .i64 l[j].id, .string l[j].type, .slice ta tn tc])) := by
          have h5 := Tb.snoc (w1 := w1) (w2 := W4) (g := g') (cap := cap') (lo := wc.heap.size) (x := l[j]) HTB.out (fun q _ h2 => HW1.out q h2) (by omega) (by omega) HTR.out hw2 (by rw [htk]; exact hown') (by omega) h4 (by rcases hat with h | h; exact Or.inl h; exact Or.inr (by omega))
          rw [htk] at h5
          show Tb _ _ _ _ _ _
          rw [htk1]; exact h5
        have HV4 : Hid (Owns W4 (w.heap.size + 1) #[.slice oa j oc] 49) := HV1.out.sameO (h4 _ hsl HNE.out)
        have HR4 : Hid (Owns W4 w.heap.size #[.slice none 0 0] 49) := HR0.out.sameO (h4 _ hrl (HTB1.out.far (by omega)))
        refine ⟨⟨j + 1, by omega, by go_num, HALL2, HB4.out.setCell (by simp) _, HR4.out.sameO (Below.heap_setCell _ _ _ _ (by simp)), ?_, .slice (some ⟨g', 0, none⟩) (j + 1) cap', _, ?_, HTB4.out.same (fun q h1 _ => Below.heap_setCell _ _ _ _ (by show q ≠ w.heap.size + 1; omega)) (by simp [World.setCell])⟩, by simp [intOf]; omega⟩
        · show _ ≤ _; simp [World.setCell]; omega
        · have := HV4.out.set 0 (.slice (some ⟨g', 0, none⟩) (j + 1) cap')
          show Owns _ _ _ _
          simpa using this
    · obtain rfl : j = l.length := by omega
      have HST : Hid (storeB l = true) := by show _ = _; rw [store_all (fun i hi => HALL.out i hi hi), HHD.out, decide_eq_true (by omega)]; rfl
      have htk : l.take l.length = l := List.take_length
      obtain ⟨oa, oc, hov⟩ := own_slice HTB.out.own
      rw [htk] at hov
      subst hov
      have HROW : Hid (∀ u, ThRow (wr.setCell ⟨w.heap.size, 0, none⟩ u) k l (.slice oa l.length oc)) := fun u => by
        have h3 := HTB.out
        rw [htk] at h3
        exact (h3.same (W := wr.setCell ⟨w.heap.size, 0, none⟩ u) (fun q h1 _ => Below.heap_setCell _ _ _ _ (by show q ≠ w.heap.size; omega)) (by simp [World.setCell])).row (by omega)
      have hw2 := HSZ.out
      have s0 : wr.cell? ⟨w.heap.size + 1, 0, none⟩ = some (.slice oa l.length oc) := by rw [HOV.out.cell]; rfl
      have r0 : wr.cell? ⟨w.heap.size, 0, none⟩ = some (.slice none 0 0) := by rw [HO0.out.cell]; rfl
      have rf : wr.frozen? ⟨w.heap.size, 0, none⟩ = false := HO0.out.frozen 0
      have hrl : w.heap.size < wr.heap.size := by omega
      go_wp2_with fail
      refine bodyPost_ret (v := .tuple #[.agg #[.slice oa l.length oc], .bool true]) (by simp [results, Try.results17, go_sem, r0, hrl]) rfl ?_
      refine ⟨oa, l.length, oc, by rw [HST.out], fun _ => HROW.out _, HB.out.setCell (by simp) _⟩

end Go.Proofs.Ythhnhigaoncakaa
