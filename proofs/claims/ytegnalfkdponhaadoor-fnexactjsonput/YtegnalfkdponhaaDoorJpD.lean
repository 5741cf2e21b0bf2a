
/-
  DERIVED. THE WALKS OF impl.writeBranch AND OF impl.writeAll over branches.
-/
import Derived.Test.YtegnalfkdponhaaDoorJpC
namespace Go.Proofs.YtegnalfkdponhaaDoor
open Go.RowKit
set_option linter.unusedVariables false
set_option linter.unusedSimpArgs false

/-- How a name and its value are written. -/
def pairL (d : Nat) (x : ByteArray × Vl) : List UInt8 := qTxt x.1.data.toList ++ 58 :: putL d x.2
theorem pairL_len {d : Nat} {x : ByteArray × Vl} (h : (putL d x.2).length ≤ bw d) (hn : x.1.size ≤ 12) : (pairL d x).length ≤ bw d + 80 := by
  have := qAll_len x.1.data.toList
  simp only [pairL, qTxt, List.length_append, List.length_cons, List.length_nil, len_toList] at this ⊢
  omega

set_option maxHeartbeats 1000000 in
set_option maxRecDepth 100000 in
theorem writeBranch_any (d : Nat) (ih : WrC d) (k : Nat) (x : ByteArray × Vl) (f : Value) (w0 : World) (B b : Nat) (l : List UInt8) (w : World) (hf : FmR w0 0 k x.2 f) (hok : okB false d x.2 = true) (hn : x.1.size ≤ 12) (hB : w0.heap.size ≤ B) (h0 : Below w0.heap.size w0 w) (ht : Tab0 w0) (hb : Bld B b l w) (hl : l.length + bw d + 100 ≤ 140737488351232) :
    Calls Tryd.prog 52 #[.pointer (some ⟨b, 0, none⟩), .agg #[.string x.1, f], .bool false] w fun e w' => e = .returned (.tuple #[]) ∧ Bld B b (l ++ pairL d x) w' ∧ Fra B b w w' := by
  obtain ⟨T, y, rfl⟩ := FmR.iface hf
  have hle := hb.le
  have HC : Hid (∀ (W : World) (l' : List UInt8), Fra B b w W → Bld B b l' W → l'.length ≤ l.length + 80 → Calls Tryd.prog 23 #[.pointer (some ⟨b, 0, none⟩), .iface T y, .bool false] W fun e w' => e = .returned (.tuple #[]) ∧ Bld B b (l' ++ putL d x.2) w' ∧ Fra B b W w') := fun W l' hW hbl hll =>
    ih k x.2 _ w0 B b l' W hf hok hB (Fra.from0 h0 hB hW) ht hbl (by omega)
  have HB : Hid (Bld B b l w) := hb
  have HL : Hid (l.length + 6 * x.1.size + 20 ≤ 140737488351232 ∧ l.length + 100 ≤ 140737488351232) := by show _ ∧ _; omega
  have HN : Hid (x.1.size ≤ 12) := hn
  clear ih hf hok hB h0 ht hb hl hn
  go_enter Tryd.func52, Tryd.ntmps52
  go_wp2_with fail
  obtain ⟨W0, hW0⟩ : ∃ W, W = w.alloc (Obj.cells #[.string x.1, .iface T y] 99) := ⟨_, rfl⟩
  rw [← hW0]
  have hb0 : Below w.heap.size w W0 := by rw [hW0]; exact (Below.refl _ _).alloc (Nat.le_refl _) _
  have HO : Hid (Owns W0 w.heap.size #[.string x.1, .iface T y] 99) := by rw [hW0]; exact Owns.made _ _ _
  have HF0 : Hid (Fra B b w W0) := Fra.of_below hb0 (by omega)
  have HB0 : Hid (Bld B b l W0) := HB.out.on hb0
  have hne : w.heap.size ≠ b := by omega
  clear hW0 hb0 hle
  refine (writeText_any B b l x.1 W0 HB0.out HL.out.1).mono ?_
  rintro e w1 ⟨rfl, h1, hf1⟩
  have HB1 : Hid (Bld B b (l ++ qTxt x.1.data.toList) w1) := h1
  have HF1 : Hid (Fra B b W0 w1) := hf1
  have HQL : Hid ((l ++ qTxt x.1.data.toList).length + 1 ≤ l.length + 80) := by
    have := qAll_len x.1.data.toList
    have := HN.out
    show _ ≤ _
    simp only [qTxt, List.length_append, List.length_cons, List.length_nil, len_toList] at *
    omega
  have HO1 : Hid (Owns w1 w.heap.size #[.string x.1, .iface T y] 99) := hf1.owns HO.out hne (by decide)
  clear h1 hf1
  go_wp2_with fail
  refine (bld_byte B b _ 58 _ rfl w1 HB1.out (by have := HQL.out; have := HL.out; omega)).mono ?_
  rintro e w2 ⟨rfl, h2, hf2⟩
  have HB2 : Hid (Bld B b (l ++ qTxt x.1.data.toList ++ [58]) w2) := h2
  have HF2 : Hid (Fra B b w w2) := HF0.out.trans (HF1.out.trans hf2)
  have HO2 : Hid (Owns w2 w.heap.size #[.string x.1, .iface T y] 99) := hf2.owns HO1.out hne (by decide)
  clear h2 hf2
  have o1 : w2.cell? ⟨w.heap.size, 1, none⟩ = some (.iface T y) := by rw [HO2.out.cell]; rfl
  go_wp2_with fail
  refine (Hid.out HC w2 _ HF2.out HB2.out (by have := HQL.out; rw [List.length_append]; simpa using this)).mono ?_
  rintro e w3 ⟨rfl, h3, hf3⟩
  have HR : Hid (Bld B b (l ++ pairL d x) w3 ∧ Fra B b w w3) := ⟨by simpa [pairL] using h3, HF2.out.trans hf3⟩
  clear h3 hf3
  go_wp2_with fail
  go_end0
  exact ⟨rfl, HR.out⟩

set_option maxHeartbeats 1000000 in
theorem wf2_any (d : Nat) (ih : WrC d) (k : Nat) (x : ByteArray × Vl) (f : Value) (w0 : World) (B b pb ab : Nat) (l : List UInt8) (w : World) (hf : FmR w0 0 k x.2 f) (hok : okB false d x.2 = true) (hn : x.1.size ≤ 12) (hB : w0.heap.size ≤ B) (h0 : Below w0.heap.size w0 w) (ht : Tab0 w0) (hb : Bld B b l w) (hl : l.length + bw d + 100 ≤ 140737488351232)
    (hpb : w.cell? ⟨pb, 0, none⟩ = some (.pointer (some ⟨b, 0, none⟩))) (hab : w.cell? ⟨ab, 0, none⟩ = some (.bool false)) :
    Calls Tryd.prog 51 #[.agg #[.string x.1, f], .pointer (some ⟨pb, 0, none⟩), .pointer (some ⟨ab, 0, none⟩)] w fun e w' => e = .returned (.tuple #[]) ∧ Bld B b (l ++ pairL d x) w' ∧ Fra B b w w' := by
  obtain ⟨T, y, rfl⟩ := FmR.iface hf
  have hle := hb.le
  obtain ⟨W0, hW0⟩ : ∃ W, W = w.alloc (Obj.cells #[.string x.1, .iface T y] 99) := ⟨_, rfl⟩
  have hb0 : Below w.heap.size w W0 := by rw [hW0]; exact (Below.refl _ _).alloc (Nat.le_refl _) _
  have HF0 : Hid (Fra B b w W0) := Fra.of_below hb0 (by omega)
  have H : Hid (∀ W, W = W0 → Calls Tryd.prog 52 #[.pointer (some ⟨b, 0, none⟩), .agg #[.string x.1, .iface T y], .bool false] W fun e w' => e = .returned (.tuple #[]) ∧ Bld B b (l ++ pairL d x) w' ∧ Fra B b W w') := fun W h => by subst h; exact writeBranch_any d ih k x _ w0 B b l W hf hok hn hB (Fra.from0 h0 hB HF0.out) ht (hb.on hb0) hl
  have hplt := cell_lt hpb
  have halt := cell_lt hab
  have HW0 : Hid (W0 = w.alloc (Obj.cells #[.string x.1, .iface T y] 99)) := hW0
  clear ih hf hok hB h0 ht hb hl hn hW0 hb0 hle
  go_enter Tryd.func51, Tryd.ntmps51
  go_wp2_with fail
  refine (Hid.out H _ HW0.out.symm).mono ?_
  rintro e w1 ⟨rfl, h1, h2⟩
  have HR : Hid (Bld B b (l ++ pairL d x) w1 ∧ Fra B b w w1) := ⟨h1, HF0.out.trans (HW0.out ▸ h2)⟩
  clear h1 h2
  go_wp2_with fail
  go_end0
  exact ⟨rfl, HR.out⟩

set_option maxHeartbeats 600000 in
set_option maxRecDepth 100000 in
theorem writeAllB (d : Nat) (ih : WrC d) (k : Nat) (xs : List (ByteArray × Vl)) (vl : Value) (w0 : World) (B b pb ab : Nat) (l : List UInt8) (w : World) (hrow : Row w0 0 2 32 (BrC w0 0 k) xs vl) (hok : ∀ x ∈ xs, okB false d x.2 = true ∧ x.1.size ≤ 12) (hlen : ∀ x, okB false d x = true → (putL d x).length ≤ bw d) (h12 : xs.length ≤ 12) (hB : w0.heap.size ≤ B) (h0 : Below w0.heap.size w0 w) (ht : Tab0 w0) (hb : Bld B b l w) (hl : l.length + bw (d + 1) ≤ 140737488351232)
    (hpb : Owns w pb #[.pointer (some ⟨b, 0, none⟩)] 49) (hab : Owns w ab #[.bool false] 4) (hpn : pb ≠ b) (han : ab ≠ b) :
    Calls Tryd.prog 50 #[.pointer (some ⟨b, 0, none⟩), .string ⟨#[123, 125]⟩, .string ⟨#[44]⟩, vl, .func (.func 51) #[] #[.pointer (some ⟨pb, 0, none⟩), .pointer (some ⟨ab, 0, none⟩)]] w fun e w' => e = .returned (.tuple #[]) ∧ Bld B b (l ++ (123 :: sepL (xs.map (pairL d)) ++ [125])) w' ∧ Fra B b w w' := by
  obtain ⟨a, cap, rfl, hw, hrest⟩ := Row.len hrow
  have hli : (xs.length : Int) ≤ 12 := by omega
  have HREST : Hid _ := hrest
  have HP : Hid (Owns w pb #[.pointer (some ⟨b, 0, none⟩)] 49 ∧ Owns w ab #[.bool false] 4) := ⟨hpb, hab⟩
  have HOK : Hid (∀ x ∈ xs, okB false d x.2 = true ∧ x.1.size ≤ 12) := hok
  have H0 : Hid (Below w0.heap.size w0 w ∧ w0.heap.size ≤ B ∧ Tab0 w0) := ⟨h0, hB, ht⟩
  have HLN : Hid (∀ j, j ≤ xs.length → l.length + 1 + (sepL ((xs.take j).map (pairL d))).length + 100 ≤ 140737488351232 ∧ (j < xs.length → l.length + 1 + (sepL ((xs.take j).map (pairL d))).length + bw d + 200 ≤ 140737488351232)) := fun j hj => by
    have h1 := sepL_len ((xs.take j).map (pairL d)) (bw d + 80) (fun x hx => by
      obtain ⟨y, hy, rfl⟩ := List.mem_map.1 hx
      have h8 := hok y (List.mem_of_mem_take hy)
      exact pairL_len (hlen y.2 h8.1) h8.2)
    have h2 : ((xs.take j).map (pairL d)).length = j := by simp; omega
    rw [h2] at h1
    have h3 : j * (bw d + 80 + 1) ≤ 12 * (bw d + 80 + 1) := Nat.mul_le_mul_right _ (by omega)
    have h4 : j < xs.length → j * (bw d + 80 + 1) ≤ 11 * (bw d + 80 + 1) := fun h => Nat.mul_le_mul_right _ (by omega)
    show _ ∧ _
    simp only [bw] at hl
    constructor
    · omega
    · intro h; have := h4 h; omega
  have HBL : Hid (Bld B b l w) := hb
  have HL9 : Hid (l.length + 1 ≤ 140737488355328) := by simp only [bw] at hl; show _ ≤ _; omega
  clear hrow hrest hpb hab hok h0 hB ht hb hlen hl h12 hw
  go_enter Tryd.func50, Tryd.ntmps50
  go_wp2_with fail
  refine (bld_byte B b l 123 _ rfl w HBL.out HL9.out).mono ?_
  rintro e w1 ⟨rfl, h1, hf1⟩
  have HB1 : Hid (Bld B b (l ++ [123]) w1) := h1
  have HF1 : Hid (Fra B b w w1) := hf1
  clear h1 hf1
  go_wp2_with fail
  go_loopw [18] (fun i wr => ∃ j : Nat, j ≤ xs.length ∧ i = .int .i64 j ∧ Hid (Bld B b (l ++ [123] ++ sepL ((xs.take j).map (pairL d))) wr) ∧ Hid (Fra B b w wr)) (fun i _ => xs.length - (intOf i).toNat)
  case atStart => exact ⟨0, Nat.zero_le _, rfl, (by show Bld B b _ w1; simpa [sepL] using HB1.out), HF1⟩
  case round =>
    obtain ⟨j, hj, rfl, HB, HF⟩ := hrel
    have hji : (j : Int) ≤ 12 := by omega
    by_cases hlt : j < xs.length
    · have hlti : (j : Int) < (xs.length : Int) := by omega
      obtain ⟨bb, off, rfl, _, hcs⟩ := HREST.out (List.ne_nil_of_length_pos (by omega))
      obtain ⟨cs, _, hc, f, rfl, hf⟩ := hcs j hlt
      obtain ⟨T, y, rfl⟩ := FmR.iface hf
      have hkw : Keeps 0 w0 wr := Keeps.of_below (Fra.from0 H0.out.1 H0.out.2.1 HF.out) (Nat.le_refl _) 0
      have hck := hc.keeps hkw (Nat.zero_le _)
      have c0 : wr.cell? ⟨bb, off + j * 2, none⟩ = some (.string xs[j].1) := hck 0 (by simp)
      have c1 : wr.cell? ⟨bb, off + j * 2 + 1, none⟩ = some (.iface T y) := hck 1 (by simp)
      have HFM : Hid (FmR w0 0 k xs[j].2 (.iface T y)) := hf
      have HN : Hid (sepL ((xs.take (j + 1)).map (pairL d)) = if j = 0 then pairL d xs[j] else sepL ((xs.take j).map (pairL d)) ++ 44 :: pairL d xs[j]) := by
        show _ = _
        rw [List.take_succ_eq_append_getElem hlt, List.map_append]
        by_cases hz : j = 0
        · subst hz; simp [sepL]
        · rw [if_neg hz]
          exact sepL_snoc _ _ (by intro h; rw [List.map_eq_nil_iff, List.take_eq_nil_iff] at h; rcases h with h | h; exact hz h; subst h; simp at hlt)
      have HCALL : Hid (∀ (W : World) (l' : List UInt8), Fra B b w W → Bld B b l' W → l'.length + bw d + 100 ≤ 140737488351232 → Calls Tryd.prog 51 #[.agg #[.string xs[j].1, .iface T y], .pointer (some ⟨pb, 0, none⟩), .pointer (some ⟨ab, 0, none⟩)] W (fun e w' => e = .returned (.tuple #[]) ∧ Bld B b (l' ++ pairL d xs[j]) w' ∧ Fra B b W w')) := fun W l' hW hbl hll =>
        wf2_any d ih k xs[j] _ w0 B b pb ab l' W hf (HOK.out _ (List.getElem_mem hlt)).1 (HOK.out _ (List.getElem_mem hlt)).2 H0.out.2.1 (Fra.from0 H0.out.1 H0.out.2.1 hW) H0.out.2.2 hbl hll (by rw [(hW.owns HP.out.1 hpn (by decide)).cell]; rfl) (by rw [(hW.owns HP.out.2 han (by decide)).cell]; rfl)
      have hb0 : Below wr.heap.size wr (wr.alloc (Obj.cells #[.string xs[j].1, .iface T y] 99)) := (Below.refl _ _).alloc (Nat.le_refl _) _
      have HBA : Hid (Bld B b (l ++ [123] ++ sepL ((xs.take j).map (pairL d))) (wr.alloc (Obj.cells #[.string xs[j].1, .iface T y] 99))) := HB.out.on hb0
      have HFA : Hid (Fra B b w (wr.alloc (Obj.cells #[.string xs[j].1, .iface T y] 99))) := HF.out.trans (Fra.of_below hb0 (by have := HB.out.le; omega))
      have HOA : Hid (Owns (wr.alloc (Obj.cells #[.string xs[j].1, .iface T y] 99)) wr.heap.size #[.string xs[j].1, .iface T y] 99) := Owns.made _ _ _
      have HNE : Hid (wr.heap.size ≠ b) := by have := HB.out.le; show _ ≠ _; omega
      clear hb0
      clear hc hf hcs hkw hck HREST HFM ih hpn han
      by_cases hz : j = 0
      · have hz' : decide ((0 : Int) < (j : Int)) = false := decide_eq_false (by omega)
        have hz2 : ¬ 0 < j := by omega
        have hz3 : decide (0 < j) = false := decide_eq_false (by omega)
        have HZ : Hid (j = 0) := hz
        have HL2 : Hid ((l ++ [123] ++ sepL ((xs.take j).map (pairL d))).length + bw d + 100 ≤ 140737488351232) := by have := (HLN.out j hj).2 hlt; show _ ≤ _; simp only [List.length_append, List.length_cons, List.length_nil]; omega
        clear hz
        go_wp2_with (go_at_call 51; refine (Hid.out HCALL _ _ (Hid.out HFA) (Hid.out HBA) (Hid.out HL2)).mono ?_; rintro e w2 ⟨rfl, h2, hf2⟩; have HB2 : Hid (Bld B b (l ++ [123] ++ sepL ((xs.take (j + 1)).map (pairL d))) w2) := (by show Bld _ _ _ _; rw [HN.out, if_pos HZ.out]; simpa [HZ.out, sepL] using h2); have HF2 : Hid (Fra B b w w2) := (Hid.out HFA).trans hf2; clear h2 hf2)
        exact ⟨⟨j + 1, by omega, by go_num, HB2, HF2⟩, by simp [intOf]; omega⟩
      · have hz' : (0 : Int) < (j : Int) := by omega
        have HZ : Hid (j ≠ 0) := hz
        have HL1 : Hid ((l ++ [123] ++ sepL ((xs.take j).map (pairL d))).length + 1 ≤ 140737488355328) := by have := (HLN.out j hj).1; show _ ≤ _; simp only [List.length_append, List.length_cons, List.length_nil]; omega
        have HL2 : Hid ((l ++ [123] ++ sepL ((xs.take j).map (pairL d)) ++ [44]).length + bw d + 100 ≤ 140737488351232) := by have := (HLN.out j hj).2 hlt; show _ ≤ _; simp only [List.length_append, List.length_cons, List.length_nil]; omega
        clear hz
        go_wp2_with fail
        refine (bld_string B b _ ⟨#[44]⟩ _ HBA.out HL1.out).mono ?_
        rintro e w2 ⟨rfl, h2, hf2⟩
        have HB2 : Hid (Bld B b (l ++ [123] ++ sepL ((xs.take j).map (pairL d)) ++ [44]) w2) := h2
        have HF2 : Hid (Fra B b w w2) := HFA.out.trans hf2
        have HO2 : Hid (Owns w2 wr.heap.size #[.string xs[j].1, .iface T y] 99) := hf2.owns HOA.out HNE.out (by decide)
        have o0 : w2.cell? ⟨wr.heap.size, 0, none⟩ = some (.string xs[j].1) := by rw [HO2.out.cell]; rfl
        have o1 : w2.cell? ⟨wr.heap.size, 1, none⟩ = some (.iface T y) := by rw [HO2.out.cell]; rfl
        clear h2 hf2
        go_wp2_with (go_at_call 51; refine (Hid.out HCALL w2 _ (Hid.out HF2) (Hid.out HB2) (Hid.out HL2)).mono ?_; rintro e w3 ⟨rfl, h3, hf3⟩; have HB3 : Hid (Bld B b (l ++ [123] ++ sepL ((xs.take (j + 1)).map (pairL d))) w3) := (by show Bld _ _ _ _; rw [HN.out, if_neg HZ.out]; simpa using h3); have HF3 : Hid (Fra B b w w3) := (Hid.out HF2).trans hf3; clear h3 hf3)
        exact ⟨⟨j + 1, by omega, by go_num, HB3, HF3⟩, by simp [intOf]; omega⟩
    · have hlti : decide ((j : Int) < (xs.length : Int)) = false := decide_eq_false (by omega)
      obtain rfl : j = xs.length := by omega
      have HL1 : Hid ((l ++ [123] ++ sepL ((xs.take xs.length).map (pairL d))).length + 1 ≤ 140737488355328) := by have := (HLN.out xs.length hj).1; show _ ≤ _; simp only [List.length_append, List.length_cons, List.length_nil]; omega
      clear HREST HOK ih
      go_wp2_with fail
      refine (bld_byte B b _ 125 _ rfl wr HB.out HL1.out).mono ?_
      rintro e w3 ⟨rfl, h3, hf3⟩
      have HB3 : Hid (Bld B b (l ++ (123 :: sepL (xs.map (pairL d)) ++ [125])) w3) := by
        show Bld _ _ _ _
        rw [List.take_length] at h3
        simpa using h3
      have HF3 : Hid (Fra B b w w3) := HF.out.trans hf3
      clear h3 hf3
      go_wp2_with fail
      go_end0
      exact ⟨rfl, HB3.out, HF3.out⟩

end Go.Proofs.YtegnalfkdponhaaDoor
