
/-
  DERIVED. HOW GREAT A VALUE IS, one for each value within it: no walk.
-/
import Derived.Test.YtdaohfeajicamaaVSz
import Derived.Test.YtdaohfeajicamaaPlainV
import Derived.Test.YtdaohfeajicamaaVlParts
import Derived.Test.YtdaohfeajicamaaVlOkC
namespace Go.Proofs.Ytdaohfeajicamaa
open Go.RowKit
set_option linter.unusedVariables false
set_option linter.unusedSimpArgs false

def vzF : Nat → Vl → Nat
  | 0, _ => 0
  | k + 1, t => sumL (vzF k) t.list + 1
theorem vzF_stable : ∀ (k : Nat) (t : Vl), SizeOf.sizeOf t ≤ k → ∀ m, SizeOf.sizeOf t ≤ m → vzF k t = vzF m t
  | 0, t, h, _, _ => by cases t; simp at h
  | k + 1, t, h, 0, hm => by cases t; simp at hm
  | k + 1, t, h, m + 1, hm => by
    simp only [vzF]
    rw [sumL_congr (fun x hx => by have := Vl.lt_list hx; exact vzF_stable k x (by omega) m (by omega))]
def IsVz (vz : Vl → Nat) : Prop := ∀ t, vz t = sumL vz t.list + 1
theorem exists_vz : ∃ vz, IsVz vz := by
  refine ⟨fun t => vzF (SizeOf.sizeOf t) t, fun t => ?_⟩
  have h0 : SizeOf.sizeOf t = SizeOf.sizeOf t - 1 + 1 := by cases t; simp; omega
  have h1 : vzF (SizeOf.sizeOf t) t = vzF (SizeOf.sizeOf t - 1 + 1) t := by rw [← h0]
  show vzF (SizeOf.sizeOf t) t = _
  rw [h1]
  simp only [vzF]
  rw [sumL_congr (fun x hx => by have := Vl.lt_list hx; exact vzF_stable (SizeOf.sizeOf t - 1) x (by omega) (SizeOf.sizeOf x) (Nat.le_refl _))]

theorem sumL_appendZ (s : Vl → Nat) (a b : List Vl) : sumL s (a ++ b) = sumL s a + sumL s b := by
  induction a with
  | nil => simp [sumL]
  | cons x r ih => simp only [List.cons_append, sumL, ih]; omega
theorem sumL_snocZ (s : Vl → Nat) {l : List Vl} {j : Nat} (h : j < l.length) : sumL s (l.take (j + 1)) = sumL s (l.take j) + s l[j] := by
  rw [List.take_succ_eq_append_getElem h, sumL_appendZ]
  simp [sumL]
theorem sumL_takeZ (s : Vl → Nat) (l : List Vl) (j : Nat) : sumL s (l.take j) ≤ sumL s l := by
  have h := sumL_appendZ s (l.take j) (l.drop j)
  rw [List.take_append_drop] at h
  omega
theorem sumL_memZ {s : Vl → Nat} {l : List Vl} {x : Vl} (h : x ∈ l) : s x ≤ sumL s l := by
  induction l with
  | nil => simp at h
  | cons y r ih =>
    rcases List.mem_cons.1 h with rfl | h
    · simp only [sumL]; omega
    · have := ih h; simp only [sumL]; omega
theorem sumL_leZ {s : Vl → Nat} {m : Nat} : ∀ {l : List Vl}, (∀ x ∈ l, s x ≤ m) → sumL s l ≤ l.length * m
  | [], _ => by simp [sumL]
  | x :: r, h => by
    have h1 := h x List.mem_cons_self
    have h2 := sumL_leZ (l := r) (fun y hy => h y (List.mem_cons_of_mem _ hy))
    simp only [sumL, List.length_cons, Nat.succ_mul]
    omega

def vzM : Nat → Nat
  | 0 => 0
  | d + 1 => 12 * vzM d + 1
/-- A value that fits is not great. -/
theorem vz_ok {words : Bool} {vz : Vl → Nat} (hv : IsVz vz) : ∀ (d : Nat) (t : Vl), okB words d t = true → vz t ≤ vzM d
  | 0, t, h => by simp [okB] at h
  | d + 1, t, h => by
    rw [okB_succ] at h
    simp only [Bool.and_eq_true, List.all_eq_true] at h
    obtain ⟨⟨⟨h1, _⟩, _⟩, h2⟩ := h
    have hlen : t.list.length ≤ 12 := by
      unfold plainB at h1
      repeat' split at h1
      all_goals (simp at h1; try first | omega | simp [h1])
    have h3 := sumL_leZ (s := vz) (m := vzM d) (l := t.list) (fun x hx => vz_ok hv d x (h2 x hx))
    have h4 : t.list.length * vzM d ≤ 12 * vzM d := Nat.mul_le_mul_right _ hlen
    rw [hv t]
    simp only [vzM]
    omega

end Go.Proofs.Ytdaohfeajicamaa

namespace Go.Proofs.Ytdaohfeajicamaa
open Go.RowKit
set_option linter.unusedVariables false
set_option linter.unusedSimpArgs false

theorem ret_intZ {k : IntKind} {a b : Int} (h : a = b) : Ending.returned (.int k a) = .returned (.int k b) := by rw [h]

def VzC (f : Nat) (vz : Vl → Nat) (k : Nat) : Prop := ∀ (t : Vl) (vl vn : Value) (w : World), VlR w 0 k t [.int .i64 t.kind, .int .i64 t.num, .string t.text, vl, vn] → vz t ≤ 2000000 →
  Calls Try.prog f #[.agg #[.int .i64 t.kind, .int .i64 t.num, .string t.text, vl, vn]] w fun e w' => e = .returned (.int .i64 (vz t : Int)) ∧ Below w.heap.size w w'

set_option maxHeartbeats 1000000 in
theorem sizeOf_step (vz : Vl → Nat) (hd : IsVz vz) (k : Nat) (ih : VzC 48 vz k) : VzC 48 vz (k + 1) := by
  intro t vl vn w ht hdt
  obtain ⟨vl', vn', hv, _, _, _, hrow, hnames⟩ := ht
  simp only [List.cons.injEq, true_and, and_true] at hv
  obtain ⟨rfl, rfl⟩ := hv
  obtain ⟨a, c, rfl, hw, hrest⟩ := Row.len hrow
  obtain ⟨a', c', rfl, _, _⟩ := StrRow.len hnames
  have hli : (t.list.length : Int) ≤ 140737488351232 := by omega
  have HD : Hid (vz t = sumL vz t.list + 1) := hd t
  have HDT : Hid (vz t ≤ 2000000) := hdt
  have HR : Hid _ := hrest
  clear hrow hnames hrest hdt
  go_enter Try.func48, Try.ntmps48
  go_wp2_with fail
  go_loopw [3, 9] (fun n i wr => ∃ j m : Nat, j ≤ t.list.length ∧ i = .int .i64 j ∧ n = .int .i64 (m : Int) ∧ Hid (m = sumL vz (t.list.take j) + 1) ∧ Hid (Below w.heap.size w wr)) (fun _ i _ => t.list.length - (intOf i).toNat)
  case atStart => exact ⟨0, 1, Nat.zero_le _, rfl, rfl, (by show 1 = sumL vz (t.list.take 0) + 1; simp [sumL]), (Below.refl _ _).alloc (Nat.le_refl _) _⟩
  case round =>
    obtain ⟨j, m, hj, rfl, rfl, HM, HB⟩ := hrel
    have hml : m ≤ 2000000 := by have h1 := HM.out; have h2 := sumL_takeZ vz t.list j; have h3 := HD.out; have h4 := HDT.out; omega
    have hmi : (m : Int) ≤ 2000000 := by omega
    by_cases hlt : j < t.list.length
    · obtain ⟨b, off, hab, _, hcs⟩ := HR.out (List.ne_nil_of_length_pos (by omega))
      subst hab
      obtain ⟨cs, hl5, hc, hR⟩ := hcs j hlt
      obtain ⟨p, n, p', n', rfl⟩ := hR.cells
      have hk : Keeps 0 w wr := Keeps.of_below HB.out (Nat.le_refl _) _
      obtain ⟨c0, c1, c2, c3, c4⟩ := (hc.keeps hk (Nat.zero_le _)).five
      have hdx : vz t.list[j] ≤ 2000000 := by have h1 := sumL_memZ (s := vz) (List.getElem_mem hlt); have h3 := HD.out; have h4 := HDT.out; omega
      have HCALL : Hid (∀ W, Keeps 0 wr W → Calls Try.prog 48 #[.agg #[.int .i64 t.list[j].kind, .int .i64 t.list[j].num, .string t.list[j].text, .slice p t.list[j].list.length n, .slice p' t.list[j].names.length n']] W fun e w' => e = .returned (.int .i64 (vz t.list[j] : Int)) ∧ Below W.heap.size W w') := fun W hW => ih t.list[j] _ _ W (VlR.keeps hW _ _ _ (VlR.keeps hk _ _ _ hR)) hdx
      have HS : Hid (sumL vz (t.list.take (j + 1)) + 1 = m + vz t.list[j]) := by show _ = _; rw [sumL_snocZ vz hlt]; have := HM.out; omega
      clear hc hR hcs hk HR hl5
      generalize hdy : vz t.list[j] = dy at *
      have hdyi : (dy : Int) ≤ 2000000 := by omega
      go_wp2_with fail
      refine (Hid.out HCALL _ ((Keeps.refl _ _).alloc _)).mono ?_
      rintro e w1 ⟨rfl, hb1⟩
      have HB1 : Hid (Below w.heap.size w w1) := (HB.out.alloc HB.out.size _).trans (hb1.mono (by have := HB.out.size; simp; omega))
      clear hb1 HCALL HB
      go_wp2_with fail
      exact ⟨⟨j + 1, m + dy, by omega, by go_num, by go_num, (by show m + dy = _; exact HS.out.symm), HB1⟩, by simp [intOf]; omega⟩
    · obtain rfl : j = t.list.length := by omega
      have HF : Hid (m = vz t) := by show _ = _; rw [HD.out, HM.out, List.take_length]
      go_wp2_with fail
      go_ret
      exact ⟨ret_intZ (by rw [← HF.out]), HB.out⟩

theorem sizeOf_all (vz : Vl → Nat) (hd : IsVz vz) : ∀ k : Nat, VzC 48 vz k
  | 0 => fun _ _ _ _ h _ => h.elim
  | k + 1 => sizeOf_step vz hd k (sizeOf_all vz hd k)

/-- What ValueSize answers. -/
def vsO (vz : Vl → Nat) (t : Vl) : Int := if okB false 6 t then (vz t : Int) else 0
theorem vsO_yes {vz : Vl → Nat} {t : Vl} (h : okB false 6 t = true) : vsO vz t = (vz t : Int) := by simp [vsO, h]
theorem vsO_no {vz : Vl → Nat} {t : Vl} (h : okB false 6 t = false) : vsO vz t = 0 := by simp [vsO, h]

set_option maxHeartbeats 1000000 in
theorem implValueSize_any (vz : Vl → Nat) (hd : IsVz vz) (k : Nat) (t : Vl) (vl vn : Value) (w : World) (ht : VlR w 0 k t [.int .i64 t.kind, .int .i64 t.num, .string t.text, vl, vn]) :
    Calls Try.prog 21 #[.agg #[.int .i64 t.kind, .int .i64 t.num, .string t.text, vl, vn]] w fun e w' => e = .returned (.int .i64 (vsO vz t)) ∧ Below w.heap.size w w' := by
  obtain ⟨a, cap, a', cap', hv⟩ := ht.cells
  simp only [List.cons.injEq, true_and, and_true] at hv
  obtain ⟨rfl, rfl⟩ := hv
  have HR : Hid (∀ W, Keeps 0 w W → VlR W 0 k t [.int .i64 t.kind, .int .i64 t.num, .string t.text, .slice a t.list.length cap, .slice a' t.names.length cap']) := fun W h => VlR.keeps h k _ _ ht
  clear ht
  cases hok : okB false 6 t with
  | false =>
    have HV : Hid (vsO vz t = 0) := vsO_no hok
    go_enter Try.func21, Try.ntmps21
    go_wp2_with fail
    refine (implValueOk_any k t _ _ _ (HR.out _ ((Keeps.refl _ _).alloc _))).mono ?_
    rintro e w1 ⟨rfl, hb1⟩
    have HB1 : Hid (Below w.heap.size w w1) := ((Below.refl _ _).alloc (Nat.le_refl _) _).trans (hb1.mono (by simp))
    rw [hok]
    clear hb1 hok
    go_wp2_with fail
    go_ret
    exact ⟨ret_intZ HV.out.symm, HB1.out⟩
  | true =>
    have HV : Hid (vsO vz t = (vz t : Int)) := vsO_yes hok
    have HZ : Hid (vz t ≤ 2000000) := Nat.le_trans (vz_ok hd 6 t hok) (by decide)
    go_enter Try.func21, Try.ntmps21
    go_wp2_with fail
    refine (implValueOk_any k t _ _ _ (HR.out _ ((Keeps.refl _ _).alloc _))).mono ?_
    rintro e w1 ⟨rfl, hb1⟩
    have HB1 : Hid (Below w.heap.size w w1) := ((Below.refl _ _).alloc (Nat.le_refl _) _).trans (hb1.mono (by simp))
    have hbox1 : ∀ o, w1.cell? ⟨w.heap.size, o, none⟩ = #[Value.int .i64 t.kind, .int .i64 t.num, .string t.text, .slice a t.list.length cap, .slice a' t.names.length cap'][o]? := fun o => by
      rw [hb1.cell (p := ⟨w.heap.size, o, none⟩) (by simp)]; exact (Owns.made w _ _).cell o
    have b0 := hbox1 0
    have b1 := hbox1 1
    have b2 := hbox1 2
    have b3 := hbox1 3
    have b4 := hbox1 4
    simp at b0 b1 b2 b3 b4
    rw [hok]
    clear hb1 hok hbox1
    go_wp2_with fail
    refine (sizeOf_all vz hd k t _ _ _ (HR.out _ (Keeps.of_below HB1.out (Nat.le_refl _) _)) HZ.out).mono ?_
    rintro e w2 ⟨rfl, hb2⟩
    have HB2 : Hid (Below w.heap.size w w2) := HB1.out.trans (hb2.mono HB1.out.size)
    clear hb2 b0 b1 b2 b3 b4 HB1
    go_wp2_with fail
    go_ret
    exact ⟨ret_intZ HV.out.symm, HB2.out⟩

end Go.Proofs.Ytdaohfeajicamaa
