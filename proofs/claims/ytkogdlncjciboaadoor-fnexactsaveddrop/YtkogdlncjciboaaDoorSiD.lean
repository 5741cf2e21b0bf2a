
/-
  DERIVED. THE OTHER SIDE's SUM: a row of bytes that a conversion made, or an append; the walk of spec.l11Padded.
-/
import Derived.Test.YtkogdlncjciboaaDoorSiB
import Derived.Deep.Upon
namespace Go.Proofs.YtkogdlncjciboaaDoor
open Go.RowKit
set_option linter.unusedVariables false
set_option linter.unusedSimpArgs false

/-- A row of bytes, told by its cells: all its room is there, and none of it is frozen. -/
structure RowC (B : Nat) (w : World) (g c : Nat) (l : List UInt8) : Prop where
  new : B ≤ g
  lt : g < w.heap.size
  le : l.length ≤ c
  max : c ≤ maxLen
  holds : ∀ j, j < l.length → w.cell? ⟨g, j, none⟩ = some (.int .u8 ((bAt l j).toNat : Int))
  there : ∀ j, j < c → (w.cell? ⟨g, j, none⟩).isSome = true ∧ w.frozen? ⟨g, j, none⟩ = false
theorem RowC.below {B g c : Nat} {w w' : World} {l : List UInt8} (h : RowC B w g c l) (hb : Below w.heap.size w w') : RowC B w' g c l :=
  ⟨h.new, Nat.lt_of_lt_of_le h.lt hb.size, h.le, h.max, fun j hj => (World.cell?_of_block (a := ⟨g, j, none⟩) (hb.block g h.lt)).trans (h.holds j hj),
    fun j hj => ⟨by rw [World.cell?_of_block (a := ⟨g, j, none⟩) (hb.block g h.lt)]; exact (h.there j hj).1, (World.frozen?_of_block (a := ⟨g, j, none⟩) (hb.block g h.lt)).trans (h.there j hj).2⟩⟩
theorem RowC.bytes {B g c : Nat} {w : World} {l : List UInt8} (h : RowC B w g c l) : BytesAt w g 0 l := fun i hi => by rw [Nat.zero_add]; exact h.holds i hi

/-- A text's bytes, converted. -/
theorem conv_C (s : ByteArray) (w : World) (hs : s.size ≤ maxLen) : ∃ cap W, (convert 9 24 (.string s)).run Tryd.prog w = .ok (.slice (some ⟨w.heap.size, 0, none⟩) s.size cap) W ∧ Below w.heap.size w W ∧ RowC w.heap.size W w.heap.size cap s.data.toList := by
  have hl : s.data.toList.length = s.size := Array.length_toList
  have hge := grownCap_ge w s.size 0 5
  refine ⟨_, _, Lib.run_convert_string_bytes w _ _ _ s Tryd.underlying9 Tryd.underlying24 Tryd.underlying5,
    ⟨rfl, rfl, rfl, by rw [Lib.bytesWorld_size]; omega, fun k hk => Lib.bytesWorld_at_old _ _ _ k hk⟩, Nat.le_refl _, by rw [Lib.bytesWorld_size]; omega, by rw [hl]; exact hge, grownCap_le_maxLen w _ _ _ hs, fun j hj => Lib.bytesWorld_cell _ _ _ j (by rw [hl] at hj; exact hj), fun j hj => ?_⟩
  have hsz : (Lib.bytesCells w 5 s).size = grownCap w s.size 0 5 := by
    simp only [Lib.bytesCells, Array.size_append, Array.size_map, Array.size_replicate]
    have : s.data.size = s.size := rfl
    omega
  have hnew := Lib.bytesWorld_at_new w 5 s
  constructor
  · simp only [World.cell?, hnew]
    simp
    omega
  · simp only [World.frozen?, hnew]
    simp
    omega

theorem byteAt_snoc {l : List UInt8} {x : UInt8} {j : Nat} (h : j < (l ++ [x]).length) : bAt (l ++ [x]) j = if j < l.length then bAt l j else x := by
  simp only [List.length_append, List.length_cons, List.length_nil] at h
  unfold bAt
  rw [List.getD_eq_getElem?_getD, List.getD_eq_getElem?_getD]
  by_cases hj : j < l.length
  · rw [if_pos hj, List.getElem?_append_left hj]
  · obtain rfl : j = l.length := by omega
    rw [if_neg (by omega)]
    simp

theorem run_append_C {B g c : Nat} {w : World} {l : List UInt8} (h : RowC B w g c l) (hB : B ≤ w.heap.size) (H : Nat) (x : UInt8) (v : Int) (hv : v = (x.toNat : Int)) (hx : w.cell? ⟨H, 0, none⟩ = some (.int .u8 v)) (hl : l.length + 1 ≤ 140737488355328) (ty : TypeId) :
    ∃ g' c' w', (Builtin.append_ #[24, 24] ty #[.slice (some ⟨g, 0, none⟩) l.length c, .slice (some ⟨H, 0, none⟩) 1 1]).run Tryd.prog w = .ok (.slice (some ⟨g', 0, none⟩) (l.length + 1) c') w' ∧ RowC B w' g' c' (l ++ [x]) ∧ w.grownBy w' (some g) := by
  subst hv
  obtain ⟨i, hi, hz, hs1, hb1⟩ := info_byte
  have hsrc : Src Tryd.prog i.size 24 (.slice (some ⟨H, 0, none⟩) 1 1) 1 [.int .u8 (x.toNat : Int)] w := Src.ofSlice w Tryd.underlying24 ⟨H, 0, none⟩ 1 1 _ (by rw [hs1]; rfl) (fun j u hu => by
    match j, hu with
    | 0, hu => simp at hu; subst hu; rw [Addr.add_lit]; exact hx) (fun u hu => by simp at hu; subst hu; rfl)
  have hmx : l.length + 1 ≤ maxLen := by unfold maxLen; omega
  by_cases hr : l.length + 1 ≤ c
  · have hth := h.there l.length (by omega)
    have hrun := run_append_room_src (P := Tryd.prog) w 24 24 ty 5 i Tryd.underlying24 hi g 0 l.length c _ 1 _ hsrc hr
      (fun j hj => by have h0 : j = 0 := (by simpa using hj); rw [h0, hs1, Nat.zero_add, Nat.mul_one]; exact hth.1) (fun j hj => by have h0 : j = 0 := (by simpa using hj); rw [h0, hs1, Nat.zero_add, Nat.mul_one]; exact hth.2)
    have hw : w.setCells g (0 + l.length * i.size) [.int .u8 (x.toNat : Int)] = w.setCell ⟨g, l.length, none⟩ (.int .u8 (x.toNat : Int)) := by
      rw [hs1, Nat.zero_add, Nat.mul_one]; rfl
    rw [hw] at hrun
    refine ⟨g, c, _, hrun, ⟨h.new, by simpa [World.setCell] using h.lt, by simp; omega, h.max, fun j hj => ?_, fun j hj => ?_⟩, ⟨rfl, rfl, rfl, by simp [World.setCell], fun k hk hne => Below.heap_setCell _ _ _ _ (fun he => hne (by rw [he]))⟩⟩
    · rw [byteAt_snoc hj]
      by_cases hjl : j < l.length
      · rw [if_pos hjl, World.cell?_setCell_other _ _ _ _ (fun he => by injection he with _ he2 _; omega)]
        exact h.holds j hjl
      · obtain rfl : j = l.length := by simp at hj; omega
        rw [if_neg hjl]
        obtain ⟨u, hu⟩ := Option.isSome_iff_exists.1 hth.1
        exact World.cell?_setCell_same _ _ _ hu
    · by_cases hjl : j = l.length
      · subst hjl
        obtain ⟨u, hu⟩ := Option.isSome_iff_exists.1 hth.1
        exact ⟨by rw [World.cell?_setCell_same _ _ _ hu]; rfl, by simpa using hth.2⟩
      · exact ⟨by rw [World.cell?_setCell_other _ _ _ _ (fun he => by injection he with _ he2 _; omega)]; exact (h.there j hj).1, by simpa using (h.there j hj).2⟩
  · have hg : c < l.length + 1 := by omega
    have hold : (Builtin.firstCells i.size l.length (.slice (some ⟨g, 0, none⟩) l.length c)).run Tryd.prog w.drew = .ok (Lib.byteCells l).toArray w.drew := by
      refine run_firstCells_some w.drew i.size l.length ⟨g, 0, none⟩ l.length c (Lib.byteCells l) (by simp [Lib.byteCells, hs1]) (fun j u hu => ?_)
      rw [Addr.add_lit, Nat.zero_add]
      have hj : j < l.length := by have := (List.getElem?_eq_some_iff.1 hu).1; simpa [Lib.byteCells] using this
      have : w.cell? ⟨g, j, none⟩ = some u := by
        rw [h.holds j hj, ← hu]
        simp [Lib.byteCells, bAt, List.getD_eq_getElem?_getD, hj]
      simpa using this
    have hrun := run_append_grow_src (P := Tryd.prog) w 24 24 ty 5 i _ Tryd.underlying24 hi hz (some ⟨g, 0, none⟩) l.length c (Lib.byteCells l) hold _ 1 _ hsrc hg (by omega) (growslice_fits hg (by rw [hb1]; omega))
    have hge := grownCap_ge w (l.length + 1) c 5
    have hlc : (Lib.byteCells l).length = l.length := by simp [Lib.byteCells]
    refine ⟨_, _, _, hrun, ⟨hB, by simp, by simp; omega, grownCap_le_maxLen w _ _ _ hmx, fun j hj => ?_, fun j hj => ?_⟩, ⟨rfl, rfl, rfl, by simp, fun k hk _ => Below.heap_alloc w.drew _ k hk⟩⟩
    · have e1 := World.cell?_alloc_new w.drew ((Lib.byteCells l ++ [Value.int .u8 (x.toNat : Int)]).toArray ++ Builtin.zeroCells (Value.int .u8 0).cells (grownCap w (l.length + 1) c 5 - (l.length + 1))) 5 j
      refine e1.trans ?_
      rw [Array.getElem?_append_left (by simp at hj ⊢; omega), List.getElem?_toArray, byteAt_snoc hj]
      by_cases hjl : j < l.length
      · rw [if_pos hjl, List.getElem?_append_left (by omega)]
        simp [Lib.byteCells, bAt, List.getD_eq_getElem?_getD, hjl]
      · obtain rfl : j = l.length := by simp at hj; omega
        rw [if_neg hjl, List.getElem?_append_right (by omega), hlc, Nat.sub_self]
        rfl
    · have e1 := World.cell?_alloc_new w.drew ((Lib.byteCells l ++ [Value.int .u8 (x.toNat : Int)]).toArray ++ Builtin.zeroCells (Value.int .u8 0).cells (grownCap w (l.length + 1) c 5 - (l.length + 1))) 5 j
      refine ⟨(congrArg Option.isSome e1).trans ?_, World.frozen?_alloc_new w.drew _ _ j⟩
      have hsz : ((Lib.byteCells l ++ [Value.int .u8 (x.toNat : Int)]).toArray ++ Builtin.zeroCells (Value.int .u8 0).cells (grownCap w (l.length + 1) c 5 - (l.length + 1))).size = grownCap w (l.length + 1) c 5 := by
        rw [Array.size_append, List.size_toArray, List.length_append, hlc, size_zeroCells]
        show l.length + 1 + (grownCap w (l.length + 1) c 5 - (l.length + 1)) * 1 = _
        omega
      rw [Array.getElem?_eq_getElem (by rw [hsz]; exact hj)]
      rfl

/-- .. for the walk. -/
theorem wpList_append_C (w : World) {ops : Array Oper} {rest : List Oper} {o : Oper} {act : Act} {Q : Exit → Act → World → Prop} (hgd : o.guard = none) (s x : Operand)
    (ho : o.op = .call { callee := .builtin .append, args := #[s, x], argTypes := #[24, 24] })
    {B g c : Nat} {l : List UInt8} {n : Nat} (hn : n = l.length) (h : RowC B w g c l) (hB : B ≤ w.heap.size) (H : Nat) (y : UInt8) (v : Int) (hv : v = (y.toNat : Int)) (hx : w.cell? ⟨H, 0, none⟩ = some (.int .u8 v)) (hl : l.length + 1 ≤ 140737488355328)
    (hs : act.eval s = .slice (some ⟨g, 0, none⟩) n c) (hxe : act.eval x = .slice (some ⟨H, 0, none⟩) 1 1)
    (hK : ∀ g' c' w', RowC B w' g' c' (l ++ [y]) → w.grownBy w' (some g) → wpList Tryd.prog ops Q rest (act.put o.dst (.slice (some ⟨g', 0, none⟩) (n + 1) c')) w') : wpList Tryd.prog ops Q (o :: rest) act w := by
  subst hn
  refine wpList_plain hgd fun K hK' => ?_
  obtain ⟨g', c', w', hrun, h1, h2⟩ := run_append_C h hB H y v hv hx hl o.type
  unfold Oper.wp
  simp [execOp, ho, resolve, invoke, builtin, hs, hxe, hrun, Result.andThen]
  exact hK' _ _ (hK g' c' w' h1 h2)

theorem be8_take (n : Nat) : ∀ k, k < 8 → (be8 n).take (8 - (k + 1)) ++ [UInt8.ofNat (n / 2 ^ (8 * k))] = (be8 n).take (8 - k)
  | 0, _ => by simp [be8]
  | 1, _ => by simp [be8]
  | 2, _ => by simp [be8]
  | 3, _ => by simp [be8]
  | 4, _ => by simp [be8]
  | 5, _ => by simp [be8]
  | 6, _ => by simp [be8]
  | 7, _ => by simp [be8]
  | k + 8, h => absurd h (by omega)

/-- How long a row is. -/
def rowLen : Value → Nat | .slice _ n _ => n | _ => 0
theorem pad_more {n m : Nat} (h : m ≤ padN n) : ((n + 1 + m) % 64 = 56 ↔ m = padN n) := by unfold padN at *; omega
theorem byte_shr (n q : Nat) : (n : Int) / 2 ^ q % 256 = (((UInt8.ofNat (n / 2 ^ q)).toNat : Nat) : Int) := by
  rw [UInt8.toNat_ofNat']
  have e : (2 : Int) ^ q = ((2 ^ q : Nat) : Int) := by rw [Int.natCast_pow]; rfl
  rw [e, ← Int.natCast_ediv]
  omega

set_option maxHeartbeats 2000000 in
theorem l11Padded_any (t : ByteArray) (w : World) (ht : t.size ≤ 67108864) :
    Calls Tryd.prog 37 #[.string t] w fun e w' => ∃ g cap, e = .returned (.slice (some ⟨g, 0, none⟩) (padB t.data.toList).length cap) ∧ RowC w.heap.size w' g cap (padB t.data.toList) ∧ Below w.heap.size w w' := by
  have hti : (t.size : Int) ≤ 67108864 := by omega
  have htl : t.data.toList.length = t.size := Array.length_toList
  have HTL : Hid (t.data.toList.length = t.size) := htl
  obtain ⟨c0, W, hconv, hb0, hr0⟩ := conv_C t w (by unfold maxLen; omega)
  obtain ⟨n8, hn8⟩ : ∃ n8, n8 = t.size * 8 := ⟨_, rfl⟩
  have HN8 : Hid (n8 = t.size * 8) := hn8
  have hn8i : (t.size : Int) * 8 = (n8 : Int) := by omega
  have hn8w : IntKind.i64.wrap (n8 : Int) = (n8 : Int) := wrap64 _ (by omega)
  have HB0 : Hid (Below w.heap.size w W) := hb0
  have HR0 : Hid (RowC w.heap.size W w.heap.size c0 t.data.toList) := hr0
  clear hn8 hb0 hr0 htl
  go_enter Tryd.func37, Tryd.ntmps37
  go_wp2_with (at_builtin; refine wpList_append_C _ rfl _ _ rfl HTL.out.symm (HR0.out.below ((Below.refl _ _).alloc (Nat.le_refl _) _)) (by have := HB0.out.size; simp; omega) W.heap.size 128 128 (by decide) (by simp) (by rw [HTL.out]; omega) (by rfl) (by rfl) ?_)
  intro g1 c1 w1 hr1 hg1
  have HB1 : Hid (Below w.heap.size w w1) := (HB0.out.alloc HB0.out.size _).grown hg1 (by have := HB0.out.size; simp; omega) (fun k hk => by injection hk with hk; omega)
  have HR1 : Hid (RowC w.heap.size w1 g1 c1 (t.data.toList ++ [128] ++ List.replicate 0 0)) := by rw [List.replicate_zero, List.append_nil]; exact hr1
  clear hr1 hg1 hconv HB0 HR0
  go_wp2_with fail
  go_loopw [3] (fun sv wr => ∃ m N g c, m ≤ padN t.size ∧ N = t.size + 1 + m ∧ sv = .slice (some ⟨g, 0, none⟩) N c ∧ Hid (RowC w.heap.size wr g c (t.data.toList ++ [128] ++ List.replicate m 0)) ∧ Hid (Below w.heap.size w wr)) (fun sv _ => t.size + 1 + 64 - rowLen sv)
  case atStart => exact ⟨0, _, g1, c1, Nat.zero_le _, rfl, rfl, HR1, HB1⟩
  case round =>
    obtain ⟨m, N, g, c, hm, hN, rfl, HR, HB⟩ := hrel
    clear HR1 HB1
    have hm64 : padN t.size < 64 := by unfold padN; omega
    have hNi : (N : Int) ≤ 67108864 + 65 := by omega
    have hpm := pad_more hm
    rw [← hN] at hpm
    have HN : Hid (N = t.size + 1 + m) := hN
    have HLL : Hid ((t.data.toList ++ [128] ++ List.replicate m (0 : UInt8)).length = N) := by
      show _ = _
      simp only [List.length_append, List.length_cons, List.length_nil, List.length_replicate, HTL.out]
      omega
    have hem : ((N : Nat) : Int).tmod 64 = ((N % 64 : Nat) : Int) := by rw [Int.tmod_eq_emod_of_nonneg (by omega)]; omega
    by_cases heq : m = padN t.size
    · have h56 : N % 64 = 56 := hpm.2 heq
      have h56i : ((N % 64 : Nat) : Int) = 56 := by omega
      rw [h56i] at hem
      have HM : Hid (m = padN t.size) := heq
      clear hpm h56 h56i heq hm hN
      go_wp2_with fail
      go_loopw [3, 5] (fun sv iv wr => ∃ k M g c, k ≤ 8 ∧ M = N + (8 - k) ∧ iv = .int .i64 ((k : Int) - 1) ∧ sv = .slice (some ⟨g, 0, none⟩) M c ∧ Hid (RowC w.heap.size wr g c (t.data.toList ++ [128] ++ List.replicate m 0 ++ (be8 n8).take (8 - k))) ∧ Hid (Below w.heap.size w wr)) (fun _ iv _ => (intOf iv + 1).toNat)
      case atStart => exact ⟨8, N, g, c, Nat.le_refl _, rfl, rfl, rfl, by rw [Nat.sub_self, List.take_zero, List.append_nil]; exact HR, HB⟩
      case round =>
        rename World => wo
        clear HR HB
        obtain ⟨k, M, g, c, hk8, hM, rfl, rfl, HR, HB⟩ := hrel
        have HM2 : Hid (M = N + (8 - k)) := hM
        have hMi : (M : Int) ≤ 67108864 + 65 + 8 := by omega
        have HL2 : Hid ((t.data.toList ++ [128] ++ List.replicate m (0 : UInt8) ++ (be8 n8).take (8 - k)).length = M) := by
          show _ = _
          rw [List.length_append, HLL.out, List.length_take, hM]
          simp [be8]
        match k, hk8 with
        | 0, _ =>
          clear hM
          have HRE : Hid (RowC w.heap.size wo g c (padB t.data.toList)) := by
            have h1 := HR.out
            rw [HN8.out, HM.out] at h1
            show RowC _ _ _ _ _
            unfold padB
            rw [HTL.out]
            exact h1
          have HLE : Hid ((padB t.data.toList).length = M) := by
            show _ = _
            rw [← HL2.out]
            unfold padB
            rw [HTL.out, HN8.out, HM.out]
            rfl
          clear HR HL2 HLL
          go_wp2_with fail
          go_ret
          exact ⟨g, c, by rw [HLE.out]; rfl, HRE.out, HB.out⟩
        | k + 1, hk8 =>
          have hki : ((k + 1 : Nat) : Int) - 1 = (k : Int) := by omega
          rw [hki]
          obtain ⟨q, hq⟩ : ∃ q, q = 8 * k := ⟨_, rfl⟩
          have HQ : Hid (q = 8 * k) := hq
          have hqi : (8 : Int) * (k : Int) = (q : Int) := by omega
          have hq64 : (q : Int) < 64 := by omega
          have hq0 : ¬ ((q : Int) < 0) := by omega
          have hk0 : ¬ ((k : Int) < 0) := by omega
          have wq : IntKind.i64.wrap (q : Int) = (q : Int) := wrap64 _ (by omega)
          have hk7 : (k : Int) < 8 := by omega
          obtain ⟨L, hLd⟩ : ∃ L, t.data.toList ++ [128] ++ List.replicate m (0 : UInt8) ++ (be8 n8).take (8 - (k + 1)) = L := ⟨_, rfl⟩
          rw [hLd] at HR HL2
          have HLD : Hid (t.data.toList ++ [128] ++ List.replicate m (0 : UInt8) ++ (be8 n8).take (8 - (k + 1)) = L) := hLd
          clear hki hq hM hLd
          go_wp2_with (at_builtin; refine wpList_append_C _ rfl _ _ rfl HL2.out.symm (HR.out.below ((Below.refl _ _).alloc (Nat.le_refl _) _)) (by have := HB.out.size; simp; omega) wo.heap.size (UInt8.ofNat (n8 / 2 ^ q)) _ (byte_shr n8 q) (by simp) (by rw [HL2.out]; omega) (by rfl) (by rfl) ?_)
          intro g2 c2 w2 hr2 hg2
          have HB2 : Hid (Below w.heap.size w w2) := (HB.out.alloc HB.out.size _).grown hg2 (by have := HB.out.size; simp; omega) (fun k hk => by injection hk with hk; have := HR.out.new; omega)
          have HR2 : Hid (RowC w.heap.size w2 g2 c2 (t.data.toList ++ [128] ++ List.replicate m 0 ++ (be8 n8).take (8 - k))) := by
            show RowC _ _ _ _ _
            rw [← be8_take n8 k (by omega), ← HQ.out, ← List.append_assoc, HLD.out]
            exact hr2
          clear hr2 hg2 HR HB HL2
          go_wp2_with fail
          exact ⟨⟨k, _, g2, c2, by omega, by have := HM2.out; show M + 1 = N + (8 - k); omega, by go_num, rfl, HR2, HB2⟩, by simp [intOf]⟩
    · have h56 : ¬ (N % 64 = 56) := fun h => heq (hpm.1 h)
      have h56i : ¬ (((N % 64 : Nat) : Int) = 56) := by omega
      have HM : Hid (m < padN t.size) := by show _ < _; omega
      clear hpm h56 heq hm hN
      go_wp2_with (at_builtin; refine wpList_append_C _ rfl _ _ rfl HLL.out.symm (HR.out.below ((Below.refl _ _).alloc (Nat.le_refl _) _)) (by have := HB.out.size; simp; omega) wr.heap.size 0 0 (by decide) (by simp) (by rw [HLL.out]; omega) (by rfl) (by rfl) ?_)
      intro g2 c2 w2 hr2 hg2
      have HB2 : Hid (Below w.heap.size w w2) := (HB.out.alloc HB.out.size _).grown hg2 (by have := HB.out.size; simp; omega) (fun k hk => by injection hk with hk; have := HR.out.new; omega)
      have HR2 : Hid (RowC w.heap.size w2 g2 c2 (t.data.toList ++ [128] ++ List.replicate (m + 1) 0)) := by
        have e : t.data.toList ++ [128] ++ List.replicate (m + 1) (0 : UInt8) = t.data.toList ++ 128 :: (List.replicate m 0 ++ [0]) := by rw [List.replicate_succ']; simp
        rw [e]; exact hr2
      clear hr2 hg2 HR HB
      go_wp2_with fail
      exact ⟨⟨m + 1, _, g2, c2, HM.out, by rw [HN.out]; rfl, rfl, HR2, HB2⟩, by have h1 := HN.out; have h2 := HM.out; show t.size + 1 + 64 - (N + 1) < t.size + 1 + 64 - N; omega⟩

end Go.Proofs.YtkogdlncjciboaaDoor
