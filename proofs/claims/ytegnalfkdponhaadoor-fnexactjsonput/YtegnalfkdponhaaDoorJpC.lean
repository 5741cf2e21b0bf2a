
/-
  DERIVED. HOW A VALUE IS WRITTEN, and the walks of impl.writeAll, impl.writeForm, impl.writeBranch.
-/
import Derived.Test.YtegnalfkdponhaaDoorJpB
import Derived.Test.YtegnalfkdponhaaDoorRepF
import Derived.Test.YtegnalfkdponhaaDoorPlainF
import Derived.Test.YtegnalfkdponhaaDoorShelf
import Derived.Lib.AppendIntMem
import Derived.Deep.RegionHeld3
namespace Go.Proofs.YtegnalfkdponhaaDoor
open Go.RowKit
set_option linter.unusedVariables false
set_option linter.unusedSimpArgs false

/-- Texts with a comma between. -/
def sepL : List (List UInt8) → List UInt8
  | [] => []
  | [x] => x
  | x :: y :: r => x ++ 44 :: sepL (y :: r)
theorem sepL_snoc : ∀ (l : List (List UInt8)) (x : List UInt8), l ≠ [] → sepL (l ++ [x]) = sepL l ++ 44 :: x
  | [], _, h => absurd rfl h
  | [y], x, _ => by simp [sepL]
  | y :: z :: r, x, _ => by
    have := sepL_snoc (z :: r) x (by simp)
    simp only [List.cons_append, sepL] at this ⊢
    rw [this]
    simp
theorem sepL_len : ∀ (l : List (List UInt8)) (m : Nat), (∀ x ∈ l, x.length ≤ m) → (sepL l).length ≤ l.length * (m + 1)
  | [], _, _ => by simp [sepL]
  | [x], m, h => by have := h x (by simp); simp [sepL]; omega
  | x :: y :: r, m, h => by
    have h1 := h x (by simp)
    have h2 := sepL_len (y :: r) m (fun z hz => h z (by simp [hz]))
    simp only [sepL, List.length_append, List.length_cons] at h2 ⊢
    rw [Nat.add_mul _ 1]
    omega

/-- How a value is written. -/
def putL : Nat → Vl → List UInt8
  | 0, _ => []
  | d + 1, t =>
    if t.kind = 0 then [110, 117, 108, 108] else if t.kind = 1 then (if t.num = 1 then [116, 114, 117, 101] else [102, 97, 108, 115, 101]) else if t.kind = 2 then Lib.itoa t.num else if t.kind = 3 then qTxt t.text.data.toList
    else if t.kind = 4 then 91 :: sepL (t.list.map (putL d)) ++ [93] else if t.kind = 5 then 123 :: sepL ((t.names.zip t.list).map (fun x => qTxt x.1.data.toList ++ 58 :: putL d x.2)) ++ [125] else []
/-- How long it is at most. -/
def bw : Nat → Nat
  | 0 => 300
  | d + 1 => 12 * (bw d + 100) + 300

theorem Bld.on {B b : Nat} {l : List UInt8} {w w' : World} (h : Bld B b l w) (hb : Below w.heap.size w w') : Bld B b l w' := by
  have : ∀ p, Lib.BuilderAt 51 5 B b p (Lib.byteCells l) w → Lib.BuilderAt 51 5 B b p (Lib.byteCells l) w' := fun p hp => by
    have hlt := hp.lt
    obtain ⟨h1, v, h2, h3, h4⟩ := hp
    refine ⟨h1, v, (hb.block b hlt).trans h2, ?_, h4⟩
    obtain ⟨a1, a2⟩ := h3
    refine ⟨a1, ?_⟩
    rcases a2 with a2 | ⟨g, cap, cur, a2, a3, a4, a5⟩
    · exact Or.inl a2
    · have hg : g < w.heap.size := by
        rcases Nat.lt_or_ge g w.heap.size with h | h
        · exact h
        · simp [Array.getElem?_eq_none h] at a4
      exact Or.inr ⟨g, cap, cur, a2, a3, (hb.block g hg).trans a4, a5⟩
  rcases h with h | h
  · exact Or.inl (this _ h)
  · exact Or.inr (this _ h)
theorem Fra.of_below {B b : Nat} {w w' : World} (hb : Below w.heap.size w w') (hB : B ≤ w.heap.size) : Fra B b w w' :=
  ⟨hb.mono hB, fun k o hk _ _ => by
    have hlt : k < w.heap.size := (Array.getElem?_eq_some_iff.1 hk).1
    rw [hb.block k hlt]; exact hk⟩

/-- The table that numbers are written by. -/
def Tab0 (w0 : World) : Prop := Lib.TabBelow Tryd.prog w0.heap.size w0 "internal/strconv.uint64pow10" .u64 Lib.pow10Tab
def WrC (d : Nat) : Prop := ∀ (k : Nat) (t : Vl) (f : Value) (w0 : World) (B b : Nat) (l : List UInt8) (w : World), FmR w0 0 k t f → okB false d t = true → w0.heap.size ≤ B → Below w0.heap.size w0 w → Tab0 w0 → Bld B b l w → l.length + bw d ≤ 140737488351232 →
  Calls Tryd.prog 23 #[.pointer (some ⟨b, 0, none⟩), f, .bool false] w fun e w' => e = .returned (.tuple #[]) ∧ Bld B b (l ++ putL d t) w' ∧ Fra B b w w'

theorem Fra.from0 {B b : Nat} {w0 w w' : World} (h0 : Below w0.heap.size w0 w) (hB : w0.heap.size ≤ B) (h : Fra B b w w') : Below w0.heap.size w0 w' := h0.trans (h.below.mono hB)

set_option maxHeartbeats 1000000 in
theorem wf1_any (d : Nat) (ih : WrC d) (k : Nat) (t : Vl) (f : Value) (w0 : World) (B b pb ab : Nat) (l : List UInt8) (w : World) (hf : FmR w0 0 k t f) (hok : okB false d t = true) (hB : w0.heap.size ≤ B) (h0 : Below w0.heap.size w0 w) (ht : Tab0 w0) (hb : Bld B b l w) (hl : l.length + bw d ≤ 140737488351232)
    (hpb : w.cell? ⟨pb, 0, none⟩ = some (.pointer (some ⟨b, 0, none⟩))) (hab : w.cell? ⟨ab, 0, none⟩ = some (.bool false)) :
    Calls Tryd.prog 49 #[f, .pointer (some ⟨pb, 0, none⟩), .pointer (some ⟨ab, 0, none⟩)] w fun e w' => e = .returned (.tuple #[]) ∧ Bld B b (l ++ putL d t) w' ∧ Fra B b w w' := by
  obtain ⟨T, y, rfl⟩ := FmR.iface hf
  have H : Hid (Calls Tryd.prog 23 #[.pointer (some ⟨b, 0, none⟩), .iface T y, .bool false] w fun e w' => e = .returned (.tuple #[]) ∧ Bld B b (l ++ putL d t) w' ∧ Fra B b w w') := ih k t _ w0 B b l w hf hok hB h0 ht hb hl
  clear ih hf hok hB h0 ht hb hl
  go_enter Tryd.func49, Tryd.ntmps49
  go_wp2_with fail
  refine (Hid.out H).mono ?_
  rintro e w1 ⟨rfl, h1, h2⟩
  have HR : Hid (Bld B b (l ++ putL d t) w1 ∧ Fra B b w w1) := ⟨h1, h2⟩
  clear h1 h2
  go_wp2_with fail
  go_end0
  exact ⟨rfl, HR.out⟩

theorem box_fra {B b x : Nat} {w w' : World} {v : Value} {e : TypeId} (h : Fra B b w w') (ho : Owns w x #[v] e) (hx : x ≠ b) (he : e ≠ 5) : Owns w' x #[v] e := h.owns ho hx he

set_option maxHeartbeats 600000 in
set_option maxRecDepth 100000 in
theorem writeAllF (d : Nat) (ih : WrC d) (k : Nat) (xs : List Vl) (vl : Value) (w0 : World) (B b pb ab : Nat) (l : List UInt8) (w : World) (hrow : Row w0 0 1 16 (FmC w0 0 k) xs vl) (hok : ∀ x ∈ xs, okB false d x = true) (hlen : ∀ x, okB false d x = true → (putL d x).length ≤ bw d) (h12 : xs.length ≤ 12) (hB : w0.heap.size ≤ B) (h0 : Below w0.heap.size w0 w) (ht : Tab0 w0) (hb : Bld B b l w) (hl : l.length + bw (d + 1) ≤ 140737488351232)
    (hpb : Owns w pb #[.pointer (some ⟨b, 0, none⟩)] 49) (hab : Owns w ab #[.bool false] 4) (hpn : pb ≠ b) (han : ab ≠ b) :
    Calls Tryd.prog 48 #[.pointer (some ⟨b, 0, none⟩), .string ⟨#[91, 93]⟩, .string ⟨#[44]⟩, vl, .func (.func 49) #[] #[.pointer (some ⟨pb, 0, none⟩), .pointer (some ⟨ab, 0, none⟩)]] w fun e w' => e = .returned (.tuple #[]) ∧ Bld B b (l ++ (91 :: sepL (xs.map (putL d)) ++ [93])) w' ∧ Fra B b w w' := by
  obtain ⟨a, cap, rfl, hw, hrest⟩ := Row.len hrow
  have hli : (xs.length : Int) ≤ 12 := by omega
  have HREST : Hid _ := hrest
  have HP : Hid (Owns w pb #[.pointer (some ⟨b, 0, none⟩)] 49 ∧ Owns w ab #[.bool false] 4) := ⟨hpb, hab⟩
  have HOK : Hid (∀ x ∈ xs, okB false d x = true) := hok
  have H0 : Hid (Below w0.heap.size w0 w ∧ w0.heap.size ≤ B ∧ Tab0 w0) := ⟨h0, hB, ht⟩
  have HLN : Hid (∀ j, j ≤ xs.length → l.length + 1 + (sepL ((xs.take j).map (putL d))).length + 100 ≤ 140737488351232 ∧ (j < xs.length → l.length + 1 + (sepL ((xs.take j).map (putL d))).length + bw d + 100 ≤ 140737488351232)) := fun j hj => by
    have h1 := sepL_len ((xs.take j).map (putL d)) (bw d) (fun x hx => by
      obtain ⟨y, hy, rfl⟩ := List.mem_map.1 hx
      exact hlen y (hok y (List.mem_of_mem_take hy)))
    have h2 : ((xs.take j).map (putL d)).length = j := by simp; omega
    rw [h2] at h1
    have h3 : j * (bw d + 1) ≤ 12 * (bw d + 1) := Nat.mul_le_mul_right _ (by omega)
    have h4 : j < xs.length → j * (bw d + 1) ≤ 11 * (bw d + 1) := fun h => Nat.mul_le_mul_right _ (by omega)
    show _ ∧ _
    simp only [bw] at hl
    constructor
    · omega
    · intro h; have := h4 h; omega
  have HBL : Hid (Bld B b l w) := hb
  have HL9 : Hid (l.length + 1 ≤ 140737488355328) := by simp only [bw] at hl; show _ ≤ _; omega
  clear hrow hrest hpb hab hok h0 hB ht hb hlen hl h12 hw
  go_enter Tryd.func48, Tryd.ntmps48
  go_wp2_with fail
  refine (bld_byte B b l 91 _ rfl w HBL.out HL9.out).mono ?_
  rintro e w1 ⟨rfl, h1, hf1⟩
  have HB1 : Hid (Bld B b (l ++ [91]) w1) := h1
  have HF1 : Hid (Fra B b w w1) := hf1
  clear h1 hf1
  go_wp2_with fail
  go_loopw [18] (fun i wr => ∃ j : Nat, j ≤ xs.length ∧ i = .int .i64 j ∧ Hid (Bld B b (l ++ [91] ++ sepL ((xs.take j).map (putL d))) wr) ∧ Hid (Fra B b w wr)) (fun i _ => xs.length - (intOf i).toNat)
  case atStart => exact ⟨0, Nat.zero_le _, rfl, (by show Bld B b _ w1; simpa [sepL] using HB1.out), HF1⟩
  case round =>
    obtain ⟨j, hj, rfl, HB, HF⟩ := hrel
    have hji : (j : Int) ≤ 12 := by omega
    by_cases hlt : j < xs.length
    · have hlti : (j : Int) < (xs.length : Int) := by omega
      obtain ⟨bb, off, rfl, _, hcs⟩ := HREST.out (List.ne_nil_of_length_pos (by omega))
      obtain ⟨cs, _, hc, f, rfl, hf⟩ := hcs j hlt
      obtain ⟨T, y, rfl⟩ := FmR.iface hf
      have hkw : Keeps 0 w0 wr := Keeps.of_below (Fra.from0 H0.out.1 H0.out.2.1 HF.out) (Nat.le_refl _) 0
      have c0 : wr.cell? ⟨bb, off + j, none⟩ = some (.iface T y) := by
        have := (hc.keeps hkw (Nat.zero_le _)) 0 (by simp)
        simpa using this
      have HFM : Hid (FmR w0 0 k xs[j] (.iface T y)) := hf
      have HN : Hid (sepL ((xs.take (j + 1)).map (putL d)) = if j = 0 then putL d xs[j] else sepL ((xs.take j).map (putL d)) ++ 44 :: putL d xs[j]) := by
        show _ = _
        rw [List.take_succ_eq_append_getElem hlt, List.map_append]
        by_cases hz : j = 0
        · subst hz; simp [sepL]
        · rw [if_neg hz]
          exact sepL_snoc _ _ (by intro h; rw [List.map_eq_nil_iff, List.take_eq_nil_iff] at h; rcases h with h | h; exact hz h; subst h; simp at hlt)
      have HCALL : Hid (∀ (W : World) (l' : List UInt8), Fra B b w W → Bld B b l' W → l'.length + bw d ≤ 140737488351232 → Calls Tryd.prog 49 #[.iface T y, .pointer (some ⟨pb, 0, none⟩), .pointer (some ⟨ab, 0, none⟩)] W (fun e w' => e = .returned (.tuple #[]) ∧ Bld B b (l' ++ putL d xs[j]) w' ∧ Fra B b W w')) := fun W l' hW hbl hll =>
        wf1_any d ih k xs[j] _ w0 B b pb ab l' W hf (HOK.out _ (List.getElem_mem hlt)) H0.out.2.1 (Fra.from0 H0.out.1 H0.out.2.1 hW) H0.out.2.2 hbl hll (by rw [(hW.owns HP.out.1 hpn (by decide)).cell]; rfl) (by rw [(hW.owns HP.out.2 han (by decide)).cell]; rfl)
      have hpn' : True := trivial
      clear hc hf hcs hkw HREST HFM ih hpn han
      by_cases hz : j = 0
      · have hz' : decide ((0 : Int) < (j : Int)) = false := decide_eq_false (by omega)
        have hz2 : ¬ 0 < j := by omega
        have hz3 : decide (0 < j) = false := decide_eq_false (by omega)
        have HZ : Hid (j = 0) := hz
        have HL2 : Hid ((l ++ [91] ++ sepL ((xs.take j).map (putL d))).length + bw d ≤ 140737488351232) := by have := (HLN.out j hj).2 hlt; show _ ≤ _; simp only [List.length_append, List.length_cons, List.length_nil]; omega
        clear hz
        go_wp2_with (go_at_call 49; refine (Hid.out HCALL wr _ (Hid.out HF) (Hid.out HB) (Hid.out HL2)).mono ?_; rintro e w2 ⟨rfl, h2, hf2⟩; have HB2 : Hid (Bld B b (l ++ [91] ++ sepL ((xs.take (j + 1)).map (putL d))) w2) := (by show Bld _ _ _ _; rw [HN.out, if_pos HZ.out]; simpa [HZ.out, sepL] using h2); have HF2 : Hid (Fra B b w w2) := (Hid.out HF).trans hf2; clear h2 hf2)
        exact ⟨⟨j + 1, by omega, by go_num, HB2, HF2⟩, by simp [intOf]; omega⟩
      · have hz' : (0 : Int) < (j : Int) := by omega
        have HZ : Hid (j ≠ 0) := hz
        have HL1 : Hid ((l ++ [91] ++ sepL ((xs.take j).map (putL d))).length + 1 ≤ 140737488355328) := by have := (HLN.out j hj).1; show _ ≤ _; simp only [List.length_append, List.length_cons, List.length_nil]; omega
        have HL2 : Hid ((l ++ [91] ++ sepL ((xs.take j).map (putL d)) ++ [44]).length + bw d ≤ 140737488351232) := by have := (HLN.out j hj).2 hlt; show _ ≤ _; simp only [List.length_append, List.length_cons, List.length_nil]; omega
        clear hz
        go_wp2_with fail
        refine (bld_string B b _ ⟨#[44]⟩ wr HB.out HL1.out).mono ?_
        rintro e w2 ⟨rfl, h2, hf2⟩
        have HB2 : Hid (Bld B b (l ++ [91] ++ sepL ((xs.take j).map (putL d)) ++ [44]) w2) := h2
        have HF2 : Hid (Fra B b w w2) := HF.out.trans hf2
        clear h2 hf2
        go_wp2_with (go_at_call 49; refine (Hid.out HCALL w2 _ (Hid.out HF2) (Hid.out HB2) (Hid.out HL2)).mono ?_; rintro e w3 ⟨rfl, h3, hf3⟩; have HB3 : Hid (Bld B b (l ++ [91] ++ sepL ((xs.take (j + 1)).map (putL d))) w3) := (by show Bld _ _ _ _; rw [HN.out, if_neg HZ.out]; simpa using h3); have HF3 : Hid (Fra B b w w3) := (Hid.out HF2).trans hf3; clear h3 hf3)
        exact ⟨⟨j + 1, by omega, by go_num, HB3, HF3⟩, by simp [intOf]; omega⟩
    · have hlti : decide ((j : Int) < (xs.length : Int)) = false := decide_eq_false (by omega)
      obtain rfl : j = xs.length := by omega
      have HL1 : Hid ((l ++ [91] ++ sepL ((xs.take xs.length).map (putL d))).length + 1 ≤ 140737488355328) := by have := (HLN.out xs.length hj).1; show _ ≤ _; simp only [List.length_append, List.length_cons, List.length_nil]; omega
      clear HREST HOK ih
      go_wp2_with fail
      refine (bld_byte B b _ 93 _ rfl wr HB.out HL1.out).mono ?_
      rintro e w3 ⟨rfl, h3, hf3⟩
      have HB3 : Hid (Bld B b (l ++ (91 :: sepL (xs.map (putL d)) ++ [93])) w3) := by
        show Bld _ _ _ _
        rw [List.take_length] at h3
        simpa using h3
      have HF3 : Hid (Fra B b w w3) := HF.out.trans hf3
      clear h3 hf3
      go_wp2_with fail
      go_end0
      exact ⟨rfl, HB3.out, HF3.out⟩

end Go.Proofs.YtegnalfkdponhaaDoor
