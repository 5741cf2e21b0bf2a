
/-
  DERIVED. THE WALK OF spec.ValueDeep.
-/
import Derived.Test.YtopkloocjkndhaaDeepF
import Derived.WalkSpells
import Derived.WalkLawsBesides
import Derived.Deep.RegionWith
import Derived.BigQuiet
namespace Go.Proofs.Ytopkloocjkndhaa
open Go.RowKit
set_option linter.unusedVariables false
set_option linter.unusedSimpArgs false

theorem ret_intS {k : IntKind} {a b : Int} (h : a = b) : Ending.returned (.int k a) = .returned (.int k b) := by rw [h]

def SpecD (dep : Vl → Nat) (k : Nat) : Prop := ∀ (t : Vl) (vl vn : Value) (w : World), VlR w 0 k t [.int .i64 t.kind, .int .i64 t.num, .string t.text, vl, vn] → dep t ≤ 2000000 →
  Calls Try.prog 8 #[.agg #[.int .i64 t.kind, .int .i64 t.num, .string t.text, vl, vn]] w fun e w' => e = .returned (.int .i64 (dep t : Int)) ∧ Below w.heap.size w w'

set_option maxHeartbeats 1000000 in
theorem specD_step (dep : Vl → Nat) (hd : IsDep dep) (k : Nat) (ih : SpecD dep k) : SpecD dep (k + 1) := by
  intro t vl vn w ht hdt
  obtain ⟨vl', vn', hv, _, _, _, hrow, hnames⟩ := ht
  simp only [List.cons.injEq, true_and, and_true] at hv
  obtain ⟨rfl, rfl⟩ := hv
  obtain ⟨a, c, rfl, hw, hrest⟩ := Row.len hrow
  obtain ⟨a', c', rfl, _, _⟩ := StrRow.len hnames
  have hli : (t.list.length : Int) ≤ 140737488351232 := by omega
  have HD : Hid (dep t = maxL dep t.list + 1) := hd t
  have HDT : Hid (dep t ≤ 2000000) := hdt
  have HR : Hid _ := hrest
  clear hrow hnames hrest hdt
  go_enter Try.func8, Try.ntmps8
  go_wp2_with fail
  go_loopw [3, 4] (fun n i wr => ∃ j m : Nat, j ≤ t.list.length ∧ i = .int .i64 j ∧ n = .int .i64 (m : Int) ∧ Hid (m = maxL dep (t.list.take j)) ∧ Hid (Below w.heap.size w wr) ∧ Hid (Owns wr w.heap.size #[.int .i64 t.kind, .int .i64 t.num, .string t.text, .slice a t.list.length c, .slice a' t.names.length c'] 26)) (fun _ i _ => t.list.length - (intOf i).toNat)
  case atStart => exact ⟨0, 0, Nat.zero_le _, rfl, rfl, (by show 0 = maxL dep (t.list.take 0); simp [maxL]), (Below.refl _ _).alloc (Nat.le_refl _) _, Owns.made _ _ _⟩
  case round =>
    obtain ⟨j, m, hj, rfl, rfl, HM, HB, HO⟩ := hrel
    have b3 : wr.cell? ⟨w.heap.size, 3, none⟩ = some (.slice a t.list.length c) := by rw [HO.out.cell]; rfl
    have hml : m ≤ 2000000 := by have h1 := HM.out; have h2 := maxL_take_le dep t.list j; have h3 := HD.out; have h4 := HDT.out; omega
    have hmi : (m : Int) ≤ 2000000 := by omega
    by_cases hlt : j < t.list.length
    · obtain ⟨b, off, hab, _, hcs⟩ := HR.out (List.ne_nil_of_length_pos (by omega))
      subst hab
      obtain ⟨cs, hl5, hc, hR⟩ := hcs j hlt
      obtain ⟨p, n, p', n', rfl⟩ := hR.cells
      have hk : Keeps 0 w wr := Keeps.of_below HB.out (Nat.le_refl _) _
      obtain ⟨c0, c1, c2, c3, c4⟩ := (hc.keeps hk (Nat.zero_le _)).five
      have hdx : dep t.list[j] ≤ 2000000 := by have h1 := maxL_mem (d := dep) (List.getElem_mem hlt); have h3 := HD.out; have h4 := HDT.out; omega
      have HCALL : Hid (Calls Try.prog 8 #[.agg #[.int .i64 t.list[j].kind, .int .i64 t.list[j].num, .string t.list[j].text, .slice p t.list[j].list.length n, .slice p' t.list[j].names.length n']] wr fun e w' => e = .returned (.int .i64 (dep t.list[j] : Int)) ∧ Below wr.heap.size wr w') := ih t.list[j] _ _ wr (VlR.keeps hk _ _ _ hR) hdx
      have HS : Hid (maxL dep (t.list.take (j + 1)) = max m (dep t.list[j])) := by show _ = _; rw [maxL_snoc dep hlt, ← HM.out]
      clear hc hR hcs hk HR hl5
      generalize hdy : dep t.list[j] = dy at *
      have hdyi : (dy : Int) ≤ 2000000 := by omega
      go_wp2_with fail
      refine (Hid.out HCALL).mono ?_
      rintro e w1 ⟨rfl, hb1⟩
      have HB1 : Hid (Below w.heap.size w w1) := HB.out.trans (hb1.mono HB.out.size)
      have HO1 : Hid (Owns w1 w.heap.size #[.int .i64 t.kind, .int .i64 t.num, .string t.text, .slice (some ⟨b, off, none⟩) t.list.length c, .slice a' t.names.length c'] 26) := HO.out.below hb1 HO.out.lt
      clear hb1 HCALL HB HO
      by_cases hgt : m < dy
      · have hgi : (m : Int) < (dy : Int) := by omega
        go_wp2_with fail
        exact ⟨⟨j + 1, dy, by omega, by go_num, rfl, (by show dy = _; rw [HS.out]; omega), HB1, HO1⟩, by simp [intOf]; omega⟩
      · have hgi : ¬ (m : Int) < (dy : Int) := by omega
        go_wp2_with fail
        exact ⟨⟨j + 1, m, by omega, by go_num, rfl, (by show m = _; rw [HS.out]; omega), HB1, HO1⟩, by simp [intOf]; omega⟩
    · obtain rfl : j = t.list.length := by omega
      have HF : Hid (m + 1 = dep t) := by show _ = _; rw [HD.out, HM.out, List.take_length]
      go_wp2_with fail
      go_ret
      exact ⟨ret_intS (by rw [← HF.out]; omega), HB.out⟩

theorem specD_all (dep : Vl → Nat) (hd : IsDep dep) : ∀ k : Nat, SpecD dep k
  | 0 => fun _ _ _ _ h _ => h.elim
  | k + 1 => specD_step dep hd k (specD_all dep hd k)

/-! ### Sizes, with depths -/
end Go.Proofs.Ytopkloocjkndhaa
