
/-
  DERIVED. THE WALK OF treeForm.value(), whatever is within.
-/
import Derived.Test.YtdaohfeajicamaaFmValL
import Derived.Deep.Cut
import Derived.Deep.RegionHeld3
namespace Go.Proofs.Ytdaohfeajicamaa
open Go.RowKit
set_option linter.unusedVariables false
set_option linter.unusedSimpArgs false

/-- What lies there when the lists of a tree's value were made, in whatever order. -/
structure TreeMade (n : Nat) (w wx : World) (bL bN bX : Nat) : Prop where
  place : w.heap.size < bL ∧ bL < w.heap.size + 4 ∧ w.heap.size < bN ∧ bN < w.heap.size + 4 ∧ w.heap.size < bX ∧ bX < w.heap.size + 4 ∧ bL ≠ bN ∧ bL ≠ bX ∧ bN ≠ bX
  list : Owns wx bL (madeCells #[.int .i64 0, .int .i64 0, .string ByteArray.empty, .slice none 0 0, .slice none 0 0] (n * 5)) 29
  names : Owns wx bN (madeCells #[.string ByteArray.empty] n) 9
  box : Owns wx bX #[.int .i64 5, .int .i64 0, .string ⟨#[]⟩, .slice (some ⟨bL, 0, none⟩) n n, .slice (some ⟨bN, 0, none⟩) n n] 29
  res : Owns wx w.heap.size #[.int .i64 0, .int .i64 0, .string ⟨#[]⟩, .slice none 0 0, .slice none 0 0] 29
  below : Below w.heap.size w wx
  size : wx.heap.size = w.heap.size + 4

theorem size_alloc3T (w : World) (o o' o'' : Obj) : (((w.alloc o).alloc o').alloc o'').heap.size = w.heap.size + 3 := by simp
theorem alloc_at (w : World) (o : Obj) : (w.alloc o).heap[w.heap.size]? = some o := by
  show (w.heap.push o)[w.heap.size]? = _
  simp
theorem at0 (w : World) (o0 o1 o2 o3 : Obj) : ((((w.alloc o0).alloc o1).alloc o2).alloc o3).heap[w.heap.size]? = some o0 := by
  rw [Below.heap_alloc _ _ _ (by simp <;> omega), Below.heap_alloc _ _ _ (by simp <;> omega), Below.heap_alloc _ _ _ (by simp <;> omega)]
  exact alloc_at w o0
theorem at1 (w : World) (o0 o1 o2 o3 : Obj) : ((((w.alloc o0).alloc o1).alloc o2).alloc o3).heap[w.heap.size + 1]? = some o1 := by
  rw [Below.heap_alloc _ _ _ (by simp <;> omega), Below.heap_alloc _ _ _ (by simp <;> omega)]
  have h := alloc_at (w.alloc o0) o1
  rwa [size_alloc1] at h
theorem at2 (w : World) (o0 o1 o2 o3 : Obj) : ((((w.alloc o0).alloc o1).alloc o2).alloc o3).heap[w.heap.size + 1 + 1]? = some o2 := by
  rw [Below.heap_alloc _ _ _ (by simp <;> omega)]
  have h := alloc_at ((w.alloc o0).alloc o1) o2
  rwa [size_alloc2] at h
theorem at3 (w : World) (o0 o1 o2 o3 : Obj) : ((((w.alloc o0).alloc o1).alloc o2).alloc o3).heap[w.heap.size + 1 + 1 + 1]? = some o3 := by
  have h := alloc_at (((w.alloc o0).alloc o1).alloc o2) o3
  rwa [size_alloc3T] at h
theorem at_size (w : World) (o0 o1 o2 o3 : Obj) : ((((w.alloc o0).alloc o1).alloc o2).alloc o3).heap.size = w.heap.size + 4 := by simp

theorem onceB_name : ∀ (l seen : List ByteArray), onceB seen l = true → ∀ (j : Nat) (h : j < l.length), nameB l[j].data.toList = true
  | [], _, _, j, h => by simp at h
  | x :: r, seen, ho, j, h => by
    simp only [onceB, Bool.and_eq_true] at ho
    cases j with
    | zero => exact ho.1.1
    | succ j => exact onceB_name r _ ho.2 j (by simpa using h)
theorem ok_tree_name {k : Nat} {t : Vl} (h0 : t.kind = 5) (ho : okB false (k + 1) t = true) (j : Nat) (h : j < t.names.length) : t.names[j].size ≤ 12 := by
  rw [ok_k5 _ _ h0, Bool.and_eq_true] at ho
  have h1 := ho.2
  simp only [treeB, Bool.and_eq_true] at h1
  have h2 := onceB_name _ _ h1.2 j h
  simp only [nameB, Bool.and_eq_true, decide_eq_true_eq] at h2
  have h3 := len_toList t.names[j]
  omega
theorem fm_tree_name {k : Nat} {t : Vl} (h0 : t.kind = 5) (ho : fmB (k + 1) t = true) (j : Nat) (h : j < t.names.length) : t.names[j].size ≤ 12 := by
  obtain ⟨_, _, _, _, _, _, h7, _⟩ := fm_parts ho
  have h2 := onceB_name _ _ (h7 h0).2 j h
  simp only [nameB, Bool.and_eq_true, decide_eq_true_eq] at h2
  have h3 := len_toList t.names[j]
  omega
/-- A value in an interface leads to the function that value() is of it. -/
def Leads (f : Nat) (T : TypeId) (x : Value) : Prop := (∀ W, Sem.run Try.prog (method 268 T x "loop.example/pergola/impl.value") W = .ok (f, x) W) ∧ (∀ W, Sem.run Try.prog (callFunc f #[x]) W = .ok (.enter f #[x]) W)
/-- A name, and something whose value() is the value. -/
def ElC (w : World) (k : Nat) (p : ByteArray × Vl) (cs : List Value) : Prop := ∃ (T : TypeId) (x : Value) (f : Nat), cs = [.string p.1, .iface T x] ∧ Leads f T x ∧ ∀ W, Keeps 0 w W → Calls Try.prog f #[x] W (ValP k p.2 W)

set_option maxHeartbeats 4000000 in
theorem valT_fm (k : Nat) (t : Vl) (v : Value) (w : World) (h0 : t.kind = 5) (ho : fmB (k + 1) t = true) (hnl : t.names.length = t.list.length) (hrow : Row w 0 2 32 (ElC w k) (t.names.zip t.list) v) :
    Calls Try.prog 140 #[v] w (ValP (k + 1) t w) := by
  obtain ⟨hnum, htx, hl12, hoks⟩ := fm_tree_mem h0 ho
  obtain ⟨a, cap, rfl, hw, hrest⟩ := hrow.len
  have hzl : (t.names.zip t.list).length = t.list.length := by simp [hnl]
  rw [hzl] at hw ⊢
  have hlen : (t.list.length : Int) ≤ 1000 := by omega
  obtain ⟨i, hi, hz, hs, hby⟩ := info_impl_Value
  have hmk := fun W : World => run_make (P := Try.prog) W 27 29 i _ Try.underlying27 hi hz .i64 .i64 (t.list.length : Int) (t.list.length : Int) (by omega) (by omega) (by rw [hby]; omega) (by omega)
  simp only [hs, Int.toNat_natCast] at hmk
  obtain ⟨i', hi', hz', hs', hby'⟩ := info_string
  have hmk' := fun W : World => run_make (P := Try.prog) W 23 9 i' _ Try.underlying23 hi' hz' .i64 .i64 (t.list.length : Int) (t.list.length : Int) (by omega) (by omega) (by rw [hby']; omega) (by omega)
  simp only [hs', Int.toNat_natCast] at hmk'
  have HNS : Hid (∀ (j : Nat) (h : j < t.names.length), t.names[j].size ≤ 140737488351232) := fun j h => by have := fm_tree_name h0 ho j h; omega
  have HT : Hid (t.kind = 5 ∧ t.num = 0 ∧ t.text = ByteArray.empty ∧ t.names.length = t.list.length) := ⟨h0, hnum, htx, hnl⟩
  clear hi hz hs hby hi' hz' hs' hby' hrow ho hoks hnum htx hnl h0 hzl
  go_enter Try.func140, Try.ntmps140
  go_upto_region 1 with fail
  go_cut [3] from 6 (fun v wx => ∃ bL bN bX, v = .pointer (some ⟨bX, 0, none⟩) ∧ TreeMade t.list.length w wx bL bN bX)
  case first =>
    go_region
    all_goals
      go_wp2_with fail
      go_meet
      case rel => first | (refine ⟨w.heap.size + 1, w.heap.size + 1 + 1, w.heap.size + 1 + 1 + 1, rfl, ?_⟩; constructor <;> (first | omega | exact at0 _ _ _ _ _ | exact at1 _ _ _ _ _ | exact at2 _ _ _ _ _ | exact at3 _ _ _ _ _ | exact Below.drew ((((Below.refl _ _).alloc (Nat.le_refl _) _).alloc (by simp) _).alloc (by simp; omega) _ |>.alloc (by simp; omega) _) | exact at_size _ _ _ _ _))
                        | (refine ⟨w.heap.size + 1, w.heap.size + 1 + 1 + 1, w.heap.size + 1 + 1, rfl, ?_⟩; constructor <;> (first | omega | exact at0 _ _ _ _ _ | exact at1 _ _ _ _ _ | exact at2 _ _ _ _ _ | exact at3 _ _ _ _ _ | exact Below.drew ((((Below.refl _ _).alloc (Nat.le_refl _) _).alloc (by simp) _).alloc (by simp; omega) _ |>.alloc (by simp; omega) _) | exact at_size _ _ _ _ _))
                        | (refine ⟨w.heap.size + 1 + 1, w.heap.size + 1, w.heap.size + 1 + 1 + 1, rfl, ?_⟩; constructor <;> (first | omega | exact at0 _ _ _ _ _ | exact at1 _ _ _ _ _ | exact at2 _ _ _ _ _ | exact at3 _ _ _ _ _ | exact Below.drew ((((Below.refl _ _).alloc (Nat.le_refl _) _).alloc (by simp) _).alloc (by simp; omega) _ |>.alloc (by simp; omega) _) | exact at_size _ _ _ _ _))
                        | (refine ⟨w.heap.size + 1 + 1, w.heap.size + 1 + 1 + 1, w.heap.size + 1, rfl, ?_⟩; constructor <;> (first | omega | exact at0 _ _ _ _ _ | exact at1 _ _ _ _ _ | exact at2 _ _ _ _ _ | exact at3 _ _ _ _ _ | exact Below.drew ((((Below.refl _ _).alloc (Nat.le_refl _) _).alloc (by simp) _).alloc (by simp; omega) _ |>.alloc (by simp; omega) _) | exact at_size _ _ _ _ _))
                        | (refine ⟨w.heap.size + 1 + 1 + 1, w.heap.size + 1, w.heap.size + 1 + 1, rfl, ?_⟩; constructor <;> (first | omega | exact at0 _ _ _ _ _ | exact at1 _ _ _ _ _ | exact at2 _ _ _ _ _ | exact at3 _ _ _ _ _ | exact Below.drew ((((Below.refl _ _).alloc (Nat.le_refl _) _).alloc (by simp) _).alloc (by simp; omega) _ |>.alloc (by simp; omega) _) | exact at_size _ _ _ _ _))
                        | (refine ⟨w.heap.size + 1 + 1 + 1, w.heap.size + 1 + 1, w.heap.size + 1, rfl, ?_⟩; constructor <;> (first | omega | exact at0 _ _ _ _ _ | exact at1 _ _ _ _ _ | exact at2 _ _ _ _ _ | exact at3 _ _ _ _ _ | exact Below.drew ((((Below.refl _ _).alloc (Nat.le_refl _) _).alloc (by simp) _).alloc (by simp; omega) _ |>.alloc (by simp; omega) _) | exact at_size _ _ _ _ _))
  case rest =>
    obtain ⟨bL, bN, bX, rfl, hTM⟩ := hcut
    have hpl := hTM.place
    have hws := hTM.size
    have HTM : Hid (TreeMade t.list.length w wc bL bN bX) := hTM
    clear hTM hmk hmk'
    go_wp2_with fail
    go_loopw [15] (fun i wr => ∃ j : Nat, j ≤ t.list.length ∧ i = .int .i64 j ∧ Hid (FilledO wr bL 5 29 (VlO wr k) (w.heap.size + 4) wr.heap.size t.list j) ∧ Hid (FilledO wr bN 1 9 StrO 0 0 t.names j) ∧ Hid (Below w.heap.size w wr) ∧ Hid (w.heap.size + 4 ≤ wr.heap.size) ∧
      Hid (Owns wr w.heap.size #[.int .i64 0, .int .i64 0, .string ⟨#[]⟩, .slice none 0 0, .slice none 0 0] 29) ∧ Hid (Owns wr bX #[.int .i64 5, .int .i64 0, .string ⟨#[]⟩, .slice (some ⟨bL, 0, none⟩) t.list.length t.list.length, .slice (some ⟨bN, 0, none⟩) t.list.length t.list.length] 29)) (fun i _ => t.list.length - (intOf i).toNat)
    case atStart =>
      refine ⟨0, Nat.zero_le _, rfl, ?_, ?_, HTM.out.below, ?_, HTM.out.res, HTM.out.box⟩
      · exact FilledO.made HTM.out.list (size_madeCells _ _) (by omega)
      · exact FilledO.made HTM.out.names (by rw [size_madeCells, HT.out.2.2.2, Nat.mul_one]) (Nat.le_refl _)
      · show _ ≤ _; omega
    case round =>
      obtain ⟨j, hj, rfl, HF, HN, HB, HSZ, HO0, HO2⟩ := hrel
      by_cases hlt : j < t.list.length
      · have hltn : j < t.names.length := by have := HT.out.2.2.2; omega
        obtain ⟨b, off, rfl, _, hcs⟩ := hrest (List.ne_nil_of_length_pos (by simp; omega))
        obtain ⟨cs, hl3, hc, T, x, fn, rfl, ⟨hm, hcf⟩, hR⟩ := hcs j (by simp; omega)
        have hg : (t.names.zip t.list)[j]'(by simp; omega) = (t.names[j], t.list[j]) := List.getElem_zip
        rw [hg] at hR hc
        have hk : Keeps 0 w wr := Keeps.of_below HB.out (Nat.le_refl _) _
        have c0 : wr.cell? ⟨b, off + j * 2, none⟩ = some (.string t.names[j]) := (hc.keeps hk (Nat.zero_le _)) 0 (by simp)
        have c1 : wr.cell? ⟨b, off + j * 2 + 1, none⟩ = some (.iface T x) := (hc.keeps hk (Nat.zero_le _)) 1 (by simp)
        have HV : Hid (∀ W, Keeps 0 wr W → Calls Try.prog fn #[x] W (ValP k t.list[j] W)) := fun W h => hR W (hk.trans h)
        have v3 : wr.cell? ⟨bX, 3, none⟩ = some (.slice (some ⟨bL, 0, none⟩) t.list.length t.list.length) := by rw [HO2.out.cell]; rfl
        have v4 : wr.cell? ⟨bX, 4, none⟩ = some (.slice (some ⟨bN, 0, none⟩) t.list.length t.list.length) := by rw [HO2.out.cell]; rfl
        obtain ⟨⟨x0, s0⟩, z0⟩ := HF.out.slot hlt (q := 0) (by omega)
        obtain ⟨⟨x1, s1⟩, z1⟩ := HF.out.slot hlt (q := 1) (by omega)
        obtain ⟨⟨x2, s2⟩, z2⟩ := HF.out.slot hlt (q := 2) (by omega)
        obtain ⟨⟨x3, s3⟩, z3⟩ := HF.out.slot hlt (q := 3) (by omega)
        obtain ⟨⟨x4, s4⟩, z4⟩ := HF.out.slot hlt (q := 4) (by omega)
        obtain ⟨⟨y0, r0⟩, zn⟩ := HN.out.slot hltn (q := 0) (by omega)
        simp only [Nat.add_zero, Nat.mul_one] at s0 z0 r0 zn
        have hBL : bL < wr.heap.size := cell_lt s0
        have hBN : bN < wr.heap.size := cell_lt r0
        have hBX : bX < wr.heap.size := cell_lt v3
        have HFZ : Hid (∀ o, wr.frozen? ⟨bL, o, none⟩ = false) := fun o => frozen_filled HF.out o
        have HFN : Hid (∀ o, wr.frozen? ⟨bN, o, none⟩ = false) := fun o => frozen_filled HN.out o
        clear hc hR hcs hrest hk hg
        have HV2 : Hid (Calls Try.prog fn #[x] ((wr.alloc (Obj.cells #[.string t.names[j], .iface T x] 85)).drew) (fun e w1 => ∃ p1 n1 p1' n1', e = .returned (.agg #[.int .i64 t.list[j].kind, .int .i64 t.list[j].num, .string t.list[j].text, .slice p1 t.list[j].list.length n1, .slice p1' t.list[j].names.length n1']) ∧ w1.cell? ⟨bL, j * 5, none⟩ = some x0 ∧ w1.cell? ⟨bL, j * 5 + 1, none⟩ = some x1 ∧ w1.cell? ⟨bL, j * 5 + 2, none⟩ = some x2 ∧ w1.cell? ⟨bL, j * 5 + 3, none⟩ = some x3 ∧ w1.cell? ⟨bL, j * 5 + 4, none⟩ = some x4 ∧ w1.cell? ⟨bN, j, none⟩ = some y0 ∧ w1.cell? ⟨bX, 3, none⟩ = some (.slice (some ⟨bL, 0, none⟩) t.list.length t.list.length) ∧ w1.cell? ⟨bX, 4, none⟩ = some (.slice (some ⟨bN, 0, none⟩) t.list.length t.list.length) ∧ w1.cell? ⟨wr.heap.size, 0, none⟩ = some (.string t.names[j]) ∧ w1.cell? ⟨wr.heap.size, 1, none⟩ = some (.iface T x) ∧ (∀ o, w1.frozen? ⟨bL, o, none⟩ = false) ∧ (∀ o, w1.frozen? ⟨bN, o, none⟩ = false) ∧ Hid (Below wr.heap.size wr w1) ∧ Hid (VlO w1 k (wr.heap.size + 1) w1.heap.size t.list[j] [.int .i64 t.list[j].kind, .int .i64 t.list[j].num, .string t.list[j].text, .slice p1 t.list[j].list.length n1, .slice p1' t.list[j].names.length n1']))) := by
          refine (HV.out _ (((Keeps.refl _ _).alloc _).drew)).mono ?_
          rintro e w1 ⟨vl', vn', rfl, hR1, hb1⟩
          obtain ⟨p1, n1, p1', n1', hv1⟩ := hR1.cells
          simp only [List.cons.injEq, true_and, and_true] at hv1
          obtain ⟨rfl, rfl⟩ := hv1
          refine ⟨p1, n1, p1', n1', rfl, cell_on (W := ((wr.alloc (Obj.cells #[.string t.names[j], .iface T x] 85)).drew)) hb1 ((World.cell?_alloc_lt _ _ _ hBL).trans s0), cell_on (W := ((wr.alloc (Obj.cells #[.string t.names[j], .iface T x] 85)).drew)) hb1 ((World.cell?_alloc_lt _ _ _ hBL).trans s1), cell_on (W := ((wr.alloc (Obj.cells #[.string t.names[j], .iface T x] 85)).drew)) hb1 ((World.cell?_alloc_lt _ _ _ hBL).trans s2), cell_on (W := ((wr.alloc (Obj.cells #[.string t.names[j], .iface T x] 85)).drew)) hb1 ((World.cell?_alloc_lt _ _ _ hBL).trans s3), cell_on (W := ((wr.alloc (Obj.cells #[.string t.names[j], .iface T x] 85)).drew)) hb1 ((World.cell?_alloc_lt _ _ _ hBL).trans s4), cell_on (W := ((wr.alloc (Obj.cells #[.string t.names[j], .iface T x] 85)).drew)) hb1 ((World.cell?_alloc_lt _ _ _ hBN).trans r0), cell_on (W := ((wr.alloc (Obj.cells #[.string t.names[j], .iface T x] 85)).drew)) hb1 ((World.cell?_alloc_lt _ _ _ hBX).trans v3), cell_on (W := ((wr.alloc (Obj.cells #[.string t.names[j], .iface T x] 85)).drew)) hb1 ((World.cell?_alloc_lt _ _ _ hBX).trans v4), cell_on (W := ((wr.alloc (Obj.cells #[.string t.names[j], .iface T x] 85)).drew)) hb1 (by simp), cell_on (W := ((wr.alloc (Obj.cells #[.string t.names[j], .iface T x] 85)).drew)) hb1 (by simp), fun o => (hb1.frozen (p := ⟨bL, o, none⟩) (Nat.lt_of_lt_of_le hBL (by simp))).trans ((World.frozen?_of_block (w := wr) (Below.heap_alloc _ _ _ hBL)).trans (HFZ.out o)),
            fun o => (hb1.frozen (p := ⟨bN, o, none⟩) (Nat.lt_of_lt_of_le hBN (by simp))).trans ((World.frozen?_of_block (w := wr) (Below.heap_alloc _ _ _ hBN)).trans (HFN.out o)), (((Below.refl _ wr).alloc (Nat.le_refl _) _).drew).trans (hb1.mono (by simp)), size_alloc1 wr (Obj.cells #[.string t.names[j], .iface T x] 85) ▸ hR1⟩
        clear HV
        go_wp2_with fail
        have nXL : bX ≠ bL := by omega
        have nXN : bX ≠ bN := by omega
        have nLN : bL ≠ bN := by omega
        have nNL : bN ≠ bL := by omega
        have nWL : wr.heap.size ≠ bL := by omega
        have nWN : wr.heap.size ≠ bN := by omega
        have nLW : bL ≠ wr.heap.size := by omega
        have nNW : bN ≠ wr.heap.size := by omega
        have nLX : bL ≠ bX := by omega
        have nNX : bN ≠ bX := by omega
        go_region_held3 (fun w' => w'.cell? ⟨bX, 3, none⟩ = some (.slice (some ⟨bL, 0, none⟩) t.list.length t.list.length) ∧ w'.cell? ⟨bX, 4, none⟩ = some (.slice (some ⟨bN, 0, none⟩) t.list.length t.list.length) ∧ w'.cell? ⟨wr.heap.size, 0, none⟩ = some (.string t.names[j]) ∧ w'.cell? ⟨wr.heap.size, 1, none⟩ = some (.iface T x)) (go_keep) (first | (refine (Hid.out HV2).mono ?_; rintro e w1 ⟨p1, n1, p1', n1', rfl, s0', s1', s2', s3', s4', r0', v3', v4', t0', t1', hfz, hfn, HB1, HR1⟩))
        have hsz1 : wr.heap.size ≤ w1.heap.size := HB1.out.size
        have h1 : ∀ y, y < wr.heap.size → w1.heap[y]? = wr.heap[y]? := HB1.out.block
        have HNs : (t.names[j]).size ≤ 140737488351232 := HNS.out j hltn
        have HF1 : FilledO (w1.setCells bN (j * 1) [.string t.names[j]]) bL 5 29 (VlO (w1.setCells bN (j * 1) [.string t.names[j]]) k) (w.heap.size + 4) wr.heap.size t.list j :=
          HF.out.same (Nat.le_refl _) ((setCells_else _ _ _ _ nLN).trans (h1 _ hBL)) (fun a b x cs ha hb' hx => VlO.same k a b x cs (fun y y1 y2 => (setCells_else _ _ _ _ (by omega)).trans (h1 y (by omega))) hx)
        have HF2 : FilledO ((w1.setCells bN (j * 1) [.string t.names[j]]).setCells bL (j * 5) [.int .i64 t.list[j].kind, .int .i64 t.list[j].num, .string t.list[j].text, .slice p1 t.list[j].list.length n1, .slice p1' t.list[j].names.length n1']) bL 5 29 (VlO ((w1.setCells bN (j * 1) [.string t.names[j]]).setCells bL (j * 5) [.int .i64 t.list[j].kind, .int .i64 t.list[j].num, .string t.list[j].text, .slice p1 t.list[j].list.length n1, .slice p1' t.list[j].names.length n1']) k) (w.heap.size + 4) w1.heap.size t.list (j + 1) :=
          HF1.put hlt hsz1 _ rfl (fun a b x cs ha _ hx => VlO.same k a b x cs (fun b' h1 _ => setCells_else _ _ _ _ (by omega)) hx)
            (fun a ha1 ha2 => VlO.same k _ _ _ _ (fun b' h1 _ => (setCells_else _ _ _ _ (by omega)).trans (setCells_else _ _ _ _ (by omega))) (VlO.wide (by omega) (Nat.le_refl _) k _ _ HR1.out))
        have HN1 : FilledO w1 bN 1 9 StrO 0 0 t.names j := HN.out.same (Nat.le_refl _) (h1 _ hBN) (fun _ _ _ _ _ _ h => h)
        have HN2 : FilledO (w1.setCells bN (j * 1) [.string t.names[j]]) bN 1 9 StrO 0 0 t.names (j + 1) := HN1.put hltn (Nat.le_refl _) [.string t.names[j]] rfl (fun _ _ _ _ _ _ h => h) (fun _ _ _ => ⟨rfl, HNs⟩)
        have HN3 : Hid (FilledO ((w1.setCells bN (j * 1) [.string t.names[j]]).setCells bL (j * 5) [.int .i64 t.list[j].kind, .int .i64 t.list[j].num, .string t.list[j].text, .slice p1 t.list[j].list.length n1, .slice p1' t.list[j].names.length n1']) bN 1 9 StrO 0 0 t.names (j + 1)) := HN2.same (Nat.le_refl _) (setCells_else _ _ _ _ nNL) (fun _ _ _ _ _ _ h => h)
        have hsz2 : ((w1.setCells bN (j * 1) [.string t.names[j]]).setCells bL (j * 5) [.int .i64 t.list[j].kind, .int .i64 t.list[j].num, .string t.list[j].text, .slice p1 t.list[j].list.length n1, .slice p1' t.list[j].names.length n1']).heap.size = w1.heap.size := by simp [World.setCells, World.setCell]
        have HF3 : Hid (FilledO ((w1.setCells bN (j * 1) [.string t.names[j]]).setCells bL (j * 5) [.int .i64 t.list[j].kind, .int .i64 t.list[j].num, .string t.list[j].text, .slice p1 t.list[j].list.length n1, .slice p1' t.list[j].names.length n1']) bL 5 29 (VlO ((w1.setCells bN (j * 1) [.string t.names[j]]).setCells bL (j * 5) [.int .i64 t.list[j].kind, .int .i64 t.list[j].num, .string t.list[j].text, .slice p1 t.list[j].list.length n1, .slice p1' t.list[j].names.length n1']) k) (w.heap.size + 4) ((w1.setCells bN (j * 1) [.string t.names[j]]).setCells bL (j * 5) [.int .i64 t.list[j].kind, .int .i64 t.list[j].num, .string t.list[j].text, .slice p1 t.list[j].list.length n1, .slice p1' t.list[j].names.length n1']).heap.size t.list (j + 1)) := by rw [hsz2]; exact HF2
        have HB3 : Hid (Below w.heap.size w ((w1.setCells bN (j * 1) [.string t.names[j]]).setCells bL (j * 5) [.int .i64 t.list[j].kind, .int .i64 t.list[j].num, .string t.list[j].text, .slice p1 t.list[j].list.length n1, .slice p1' t.list[j].names.length n1'])) := Below.setCells (by omega) _ _ (Below.setCells (by omega) _ _ (HB.out.trans (HB1.out.mono HB.out.size)))
        have HSZ3 : Hid (w.heap.size + 4 ≤ ((w1.setCells bN (j * 1) [.string t.names[j]]).setCells bL (j * 5) [.int .i64 t.list[j].kind, .int .i64 t.list[j].num, .string t.list[j].text, .slice p1 t.list[j].list.length n1, .slice p1' t.list[j].names.length n1']).heap.size) := by show _ ≤ _; rw [hsz2]; have := HSZ.out; omega
        have hb0lt := HO0.out.lt
        have HO03 : Hid (Owns ((w1.setCells bN (j * 1) [.string t.names[j]]).setCells bL (j * 5) [.int .i64 t.list[j].kind, .int .i64 t.list[j].num, .string t.list[j].text, .slice p1 t.list[j].list.length n1, .slice p1' t.list[j].names.length n1']) w.heap.size #[.int .i64 0, .int .i64 0, .string ⟨#[]⟩, .slice none 0 0, .slice none 0 0] 29) := HO0.out.same (((setCells_else _ _ _ _ (by omega)).trans (setCells_else _ _ _ _ (by omega))).trans (h1 _ hb0lt))
        have HO23 : Hid (Owns ((w1.setCells bN (j * 1) [.string t.names[j]]).setCells bL (j * 5) [.int .i64 t.list[j].kind, .int .i64 t.list[j].num, .string t.list[j].text, .slice p1 t.list[j].list.length n1, .slice p1' t.list[j].names.length n1']) bX #[.int .i64 5, .int .i64 0, .string ⟨#[]⟩, .slice (some ⟨bL, 0, none⟩) t.list.length t.list.length, .slice (some ⟨bN, 0, none⟩) t.list.length t.list.length] 29) := HO2.out.same (((setCells_else _ _ _ _ nXL).trans (setCells_else _ _ _ _ nXN)).trans (h1 _ hBX))
        rw [Nat.mul_one] at HF3 HN3 HB3 HSZ3 HO03 HO23
        clear HF1 HF2 HN1 HN2 hsz2 HF HN HB HO0 HO2 HR1 HB1 h1
        go_wp2_with fail
        exact ⟨⟨j + 1, by omega, by go_num, HF3, HN3, HB3, HSZ3, HO03, HO23⟩, by simp [intOf]; omega⟩
      · obtain rfl : j = t.list.length := by omega
        have w0 : wr.cell? ⟨w.heap.size, 0, none⟩ = some (.int .i64 0) := by rw [HO0.out.cell]; rfl
        have w1 : wr.cell? ⟨w.heap.size, 1, none⟩ = some (.int .i64 0) := by rw [HO0.out.cell]; rfl
        have w2 : wr.cell? ⟨w.heap.size, 2, none⟩ = some (.string ⟨#[]⟩) := by rw [HO0.out.cell]; rfl
        have w3 : wr.cell? ⟨w.heap.size, 3, none⟩ = some (.slice none 0 0) := by rw [HO0.out.cell]; rfl
        have w4 : wr.cell? ⟨w.heap.size, 4, none⟩ = some (.slice none 0 0) := by rw [HO0.out.cell]; rfl
        have v0 : wr.cell? ⟨bX, 0, none⟩ = some (.int .i64 5) := by rw [HO2.out.cell]; rfl
        have v1 : wr.cell? ⟨bX, 1, none⟩ = some (.int .i64 0) := by rw [HO2.out.cell]; rfl
        have v2 : wr.cell? ⟨bX, 2, none⟩ = some (.string ⟨#[]⟩) := by rw [HO2.out.cell]; rfl
        have v3 : wr.cell? ⟨bX, 3, none⟩ = some (.slice (some ⟨bL, 0, none⟩) t.list.length t.list.length) := by rw [HO2.out.cell]; rfl
        have v4 : wr.cell? ⟨bX, 4, none⟩ = some (.slice (some ⟨bN, 0, none⟩) t.list.length t.list.length) := by rw [HO2.out.cell]; rfl
        have wf := fun o => HO0.out.frozen o
        have hb0lt := HO0.out.lt
        have hb1lt := HF.out.lt
        have hb2lt := HN.out.lt
        have HR : Hid (OwnRow wr 29 5 80 (VlO wr k) (w.heap.size + 4) wr.heap.size t.list (.slice (some ⟨bL, 0, none⟩) t.list.length t.list.length)) := HF.out.row (Or.inl (by omega)) (by omega)
        have HRN : Hid (OwnRow wr 9 1 16 StrO 0 0 t.names (.slice (some ⟨bN, 0, none⟩) t.list.length t.list.length)) := by
          have hn := HT.out.2.2.2
          have h := HN.out
          rw [← hn] at h ⊢
          exact h.row (Or.inr (Nat.zero_le _)) (by omega)
        have nX : bX ≠ w.heap.size := by omega
        clear HF HN HO0 HO2
        go_wp2_with fail
        refine bodyPost_ret (v := .agg #[.int .i64 5, .int .i64 0, .string ⟨#[]⟩, .slice (some ⟨bL, 0, none⟩) t.list.length t.list.length, .slice (some ⟨bN, 0, none⟩) t.list.length t.list.length]) (by simp [results, Try.results140, go_sem, hb0lt, w0, w1, w2, w3, w4]) rfl ?_
        obtain ⟨h0, hnum, htx, hnl⟩ := HT.out
        refine ⟨_, _, (by rw [h0, hnum, htx]; rfl), ⟨_, _, w.heap.size + 4, wr.heap.size, rfl, i64_small (by omega), i64_small (by omega), (by rw [htx]; simp), by omega, by simp [World.setCell], ?_, ?_, ?_, ?_⟩, ?_⟩
        · refine OwnRow.same HR.out (fun y hy => ?_) (fun a b x cs ha hb hx => VlO.same k a b x cs (fun y h1 h2 => ?_) hx)
          · have := hy.eq
            simp only [World.setCell, Array.getElem?_modify]
            repeat rw [if_neg (by omega)]
          · simp only [World.setCell, Array.getElem?_modify]
            repeat rw [if_neg (by omega)]
        · refine StrO.row_same HRN.out (fun y hy => ?_)
          have := hy.eq
          simp only [World.setCell, Array.getElem?_modify]
          repeat rw [if_neg (by omega)]
        · intro b hb
          have := hb.eq
          simp [World.setCell]
          omega
        · intro b hb
          have := hb.eq
          refine ⟨by omega, by simp [World.setCell]; omega, by omega, fun h => ?_⟩
          have := h.eq
          omega
        · exact ((((HB.out.setCell (by simp) _).setCell (by simp) _).setCell (by simp) _).setCell (by simp) _).setCell (by simp) _

theorem valT_any (k : Nat) (t : Vl) (v : Value) (w : World) (h0 : t.kind = 5) (ho : okB false (k + 1) t = true) (hnl : t.names.length = t.list.length) (hrow : Row w 0 2 32 (ElC w k) (t.names.zip t.list) v) :
    Calls Try.prog 140 #[v] w (ValP (k + 1) t w) := valT_fm k t v w h0 (ok_fm _ _ ho) hnl hrow

end Go.Proofs.Ytdaohfeajicamaa
