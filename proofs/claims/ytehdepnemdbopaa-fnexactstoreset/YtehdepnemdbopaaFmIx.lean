
/-
  DERIVED. THE WALK OF spec.l1Tree.
-/
import Derived.Test.YtehdepnemdbopaaRepV
import Derived.Test.YtehdepnemdbopaaVlInfo
import Derived.Test.YtehdepnemdbopaaRepF
import Derived.Test.YtehdepnemdbopaaRows
import Derived.WalkKit
import Derived.WalkSpells
import Derived.WalkLawsBesides
import Derived.Deep.RegionWith
import Derived.BigQuiet
namespace Go.Proofs.Ytehdepnemdbopaa
open Go.RowKit
set_option linter.unusedVariables false
set_option linter.unusedSimpArgs false

/-- The value at a name. -/
def findL : List ByteArray → List Vl → ByteArray → Option Vl
  | n :: ns, v :: vs, s => if n.toList == s.toList then some v else findL ns vs s
  | _, _, _ => none

def treeO (t : Vl) (s : ByteArray) : Option Vl := if t.kind = 5 then findL t.names t.list s else none

theorem findL_hit {ns : List ByteArray} {vs : List Vl} {s : ByteArray} {j : Nat} (h : j < ns.length) (h' : j < vs.length) (he : (ns[j].toList == s.toList) = true) : findL (ns.drop j) (vs.drop j) s = some vs[j] := by
  rw [List.drop_eq_getElem_cons h, List.drop_eq_getElem_cons h']
  simp only [findL, he, if_true]
theorem findL_miss {ns : List ByteArray} {vs : List Vl} {s : ByteArray} {j : Nat} (h : j < ns.length) (h' : j < vs.length) (he : (ns[j].toList == s.toList) = false) : findL (ns.drop j) (vs.drop j) s = findL (ns.drop (j + 1)) (vs.drop (j + 1)) s := by
  rw [List.drop_eq_getElem_cons h, List.drop_eq_getElem_cons h']
  simp [findL, he]

def AtC (k : Nat) (o : Option Vl) (w : World) (e : Ending) (w' : World) : Prop :=
  (match o with
  | some t => ∃ vl vn, e = .returned (.tuple #[.agg #[.int .i64 t.kind, .int .i64 t.num, .string t.text, vl, vn], .bool true]) ∧ VlR w' 0 k t [.int .i64 t.kind, .int .i64 t.num, .string t.text, vl, vn]
  | none => e = .returned (.tuple #[.agg #[.int .i64 0, .int .i64 0, .string ByteArray.empty, .slice none 0 0, .slice none 0 0], .bool false])) ∧ Below w.heap.size w w'

set_option maxHeartbeats 1000000 in
theorem l1Tree_any (k : Nat) (t : Vl) (vl vn : Value) (s : ByteArray) (w : World) (hlen : t.names.length ≤ t.list.length) (hs : s.size ≤ 140737488351232) (ht : VlR w 0 (k + 1) t [.int .i64 t.kind, .int .i64 t.num, .string t.text, vl, vn]) :
    Calls Try.prog 25 #[.agg #[.int .i64 t.kind, .int .i64 t.num, .string t.text, vl, vn], .string s] w (AtC k (treeO t s) w) := by
  obtain ⟨vl', vn', hv, hkd, hnm, hn, hrow, hnames⟩ := ht
  simp only [List.cons.injEq, true_and, and_true] at hv
  obtain ⟨rfl, rfl⟩ := hv
  obtain ⟨a, c, rfl, hw, hrest⟩ := Row.len hrow
  obtain ⟨a', c', rfl, hw', hrest'⟩ := StrRow.len hnames
  have hli : (t.names.length : Int) ≤ 140737488351232 := by omega
  have hlj : (t.list.length : Int) ≤ 140737488351232 := by omega
  clear hrow hnames
  by_cases hk : t.kind = 5
  · have HO : Hid (treeO t s = findL t.names t.list s) := by show _ = _; unfold treeO; rw [if_pos hk]
    go_enter Try.func25, Try.ntmps25
    go_wp2_with fail
    go_loopw [6] (fun i wr => ∃ j : Nat, j ≤ t.names.length ∧ i = .int .i64 j ∧ Hid (treeO t s = findL (t.names.drop j) (t.list.drop j) s) ∧ Hid (Below w.heap.size w wr) ∧ Hid (Owns wr w.heap.size #[.int .i64 5, .int .i64 t.num, .string t.text, .slice a t.list.length c, .slice a' t.names.length c'] 29) ∧ Hid (Owns wr (w.heap.size + 1) #[.int .i64 0, .int .i64 0, .string ⟨#[]⟩, .slice none 0 0, .slice none 0 0] 29)) (fun i _ => t.names.length - (intOf i).toNat)
    case atStart =>
      refine ⟨0, Nat.zero_le _, rfl, HO.out, ((Below.refl _ _).alloc (Nat.le_refl _) _).alloc (by simp) _, (Owns.made w _ _).below ((Below.refl _ _).alloc (Nat.le_refl _) _) (by simp), ?_⟩
      have := Owns.made (w.alloc (.cells #[.int .i64 5, .int .i64 t.num, .string t.text, .slice a t.list.length c, .slice a' t.names.length c'] 29)) #[.int .i64 0, .int .i64 0, .string ⟨#[]⟩, .slice none 0 0, .slice none 0 0] 29
      rw [show (w.alloc (.cells #[.int .i64 5, .int .i64 t.num, .string t.text, .slice a t.list.length c, .slice a' t.names.length c'] 29)).heap.size = w.heap.size + 1 by simp] at this
      exact this
    case round =>
      obtain ⟨j, hj, rfl, HF, HB, HX, HZ⟩ := hrel
      have x0 : wr.cell? ⟨w.heap.size, 0, none⟩ = some (.int .i64 5) := by rw [HX.out.cell]; rfl
      have x3 : wr.cell? ⟨w.heap.size, 3, none⟩ = some (.slice a t.list.length c) := by rw [HX.out.cell]; rfl
      have x4 : wr.cell? ⟨w.heap.size, 4, none⟩ = some (.slice a' t.names.length c') := by rw [HX.out.cell]; rfl
      have y0 : wr.cell? ⟨w.heap.size + 1, 0, none⟩ = some (.int .i64 0) := by rw [HZ.out.cell]; rfl
      have y1 : wr.cell? ⟨w.heap.size + 1, 1, none⟩ = some (.int .i64 0) := by rw [HZ.out.cell]; rfl
      have y2 : wr.cell? ⟨w.heap.size + 1, 2, none⟩ = some (.string ⟨#[]⟩) := by rw [HZ.out.cell]; rfl
      have y3 : wr.cell? ⟨w.heap.size + 1, 3, none⟩ = some (.slice none 0 0) := by rw [HZ.out.cell]; rfl
      have y4 : wr.cell? ⟨w.heap.size + 1, 4, none⟩ = some (.slice none 0 0) := by rw [HZ.out.cell]; rfl
      have z0 := fun o => HZ.out.frozen o
      by_cases hlt : j < t.names.length
      · have hlt' : j < t.list.length := by omega
        have hlti : (j : Int) < (t.list.length : Int) := by omega
        obtain ⟨b', off', rfl, _, hcs'⟩ := hrest' (List.ne_nil_of_length_pos (by omega))
        obtain ⟨d0, _⟩ := hcs' j hlt
        obtain ⟨b, off, rfl, _, hcs⟩ := hrest (List.ne_nil_of_length_pos (by omega))
        obtain ⟨cs, hl5, hc, hR⟩ := hcs j hlt'
        obtain ⟨p, n, p', n', rfl⟩ := hR.cells
        have hkp : Keeps 0 w wr := Keeps.of_below HB.out (Nat.le_refl _) _
        obtain ⟨c0, c1, c2, c3, c4⟩ := (hc.keeps hkp (Nat.zero_le _)).five
        have e0 : wr.cell? ⟨b', off' + j, none⟩ = some (.string t.names[j]) := hkp.cell (Nat.zero_le _) d0
        have HR : Hid (VlR w 0 k t.list[j] _) := hR
        clear hc hR hcs hrest hcs' hrest' hkp d0 hl5
        cases he : (t.names[j].toList == s.toList)
        · have HM : Hid (treeO t s = findL (t.names.drop (j + 1)) (t.list.drop (j + 1)) s) := HF.out.trans (findL_miss hlt hlt' he)
          go_wp2_with fail
          exact ⟨⟨j + 1, by omega, by go_num, HM, HB, HX, HZ⟩, by simp [intOf]; omega⟩
        · have HM : Hid (treeO t s = some t.list[j]) := HF.out.trans (findL_hit hlt hlt' he)
          go_wp2_with fail
          have hbF : Below w.heap.size w (wr.setCells (w.heap.size + 1) 0 [.int .i64 t.list[j].kind, .int .i64 t.list[j].num, .string t.list[j].text, .slice p t.list[j].list.length n, .slice p' t.list[j].names.length n']) := Below.setCells (by omega) _ _ HB.out
          refine bodyPost_ret (v := .tuple #[.agg #[.int .i64 t.list[j].kind, .int .i64 t.list[j].num, .string t.list[j].text, .slice p t.list[j].list.length n, .slice p' t.list[j].names.length n'], .bool true]) (by simp [results, Try.results25, go_sem, y0, y1, y2, y3, y4]) rfl ?_
          unfold AtC
          rw [HM.out]
          exact ⟨⟨_, _, rfl, VlR.keeps (Keeps.of_below hbF (Nat.le_refl _) 0) k _ _ HR.out⟩, hbF⟩
      · have HM : Hid (treeO t s = none) := by
          show _ = _
          rw [HF.out, List.drop_eq_nil_of_le (by omega)]; simp [findL]
        go_wp2_with fail
        have hbF : Below w.heap.size w (wr.setCells (w.heap.size + 1) 0 [.int .i64 0, .int .i64 0, .string ⟨#[]⟩, .slice none 0 0, .slice none 0 0]) := Below.setCells (by omega) _ _ HB.out
        refine bodyPost_ret (v := .tuple #[.agg #[.int .i64 0, .int .i64 0, .string ⟨#[]⟩, .slice none 0 0, .slice none 0 0], .bool false]) (by simp [results, Try.results25, go_sem, y0, y1, y2, y3, y4]) rfl ?_
        unfold AtC
        rw [HM.out]
        exact ⟨rfl, hbF⟩
  · have HO : Hid (treeO t s = none) := by show _ = _; unfold treeO; rw [if_neg hk]
    have hkb : (t.kind == 5) = false := beq_eq_false_iff_ne.2 hk
    clear hrest hrest'
    by_cases h0 : t.names.length = 0
    · have h0i : ((t.names.length : Nat) : Int) = 0 := by omega
      go_enter Try.func25, Try.ntmps25
      go_wp2_with fail
      refine wp_loop_rounds 1 ?_
      rw [rounds_succ]
      go_wp2_with fail
      refine bodyPost_ret (v := .tuple #[.agg #[.int .i64 0, .int .i64 0, .string ⟨#[]⟩, .slice none 0 0, .slice none 0 0], .bool false]) (by simp [results, Try.results25, go_sem]) rfl ?_
      unfold AtC
      rw [HO.out]
      exact ⟨rfl, ((Below.refl _ _).alloc (Nat.le_refl _) _).alloc (by simp) _⟩
    · have h0i : (0 : Int) < (t.names.length : Int) := by omega
      go_enter Try.func25, Try.ntmps25
      go_wp2_with fail
      refine wp_loop_rounds 1 ?_
      rw [rounds_succ]
      go_wp2_with fail
      refine bodyPost_ret (v := .tuple #[.agg #[.int .i64 0, .int .i64 0, .string ⟨#[]⟩, .slice none 0 0, .slice none 0 0], .bool false]) (by simp [results, Try.results25, go_sem]) rfl ?_
      unfold AtC
      rw [HO.out]
      exact ⟨rfl, ((Below.refl _ _).alloc (Nat.le_refl _) _).alloc (by simp) _⟩

end Go.Proofs.Ytehdepnemdbopaa

namespace Go.Proofs.Ytehdepnemdbopaa
open Go.RowKit
set_option linter.unusedVariables false
set_option linter.unusedSimpArgs false

set_option maxHeartbeats 1000000 in
theorem named_any (x s : ByteArray) (T : TypeId) (y : Value) (nb : Nat) (w : World) (hn : w.cell? ⟨nb, 0, none⟩ = some (.string s)) :
    Calls Try.prog 77 #[.agg #[.string x, .iface T y], .pointer (some ⟨nb, 0, none⟩)] w fun e w' => e = .returned (.bool (x.toList == s.toList)) ∧ Below w.heap.size w w' := by
  have hnl : nb < w.heap.size := cell_lt hn
  go_enter Try.func77, Try.ntmps77
  go_wp2_with fail
  go_ret
  exact ⟨rfl, (Below.refl _ _).alloc (Nat.le_refl _) _⟩

/-- Where a name stands first. -/
def IdxP (l : List (ByteArray × Vl)) (s : ByteArray) (r : Int) : Prop :=
  (∃ (i : Nat) (h : i < l.length), r = (i : Int) ∧ (l[i].1.toList == s.toList) = true ∧ ∀ (m : Nat) (h : m < l.length), m < i → (l[m].1.toList == s.toList) = false) ∨
  (r = -1 ∧ ∀ (m : Nat) (h : m < l.length), (l[m].1.toList == s.toList) = false)

set_option maxHeartbeats 1000000 in
theorem index_any (k : Nat) (l : List (ByteArray × Vl)) (v : Value) (s : ByteArray) (nb : Nat) (w : World) (hrow : Row w 0 2 32 (BrC w 0 k) l v) (hn : w.cell? ⟨nb, 0, none⟩ = some (.string s)) :
    Calls Try.prog 76 #[v, .func (.func 77) #[] #[.pointer (some ⟨nb, 0, none⟩)]] w fun e w' => ∃ r, e = .returned (.int .i64 r) ∧ IdxP l s r ∧ Below w.heap.size w w' := by
  obtain ⟨a, cap, rfl, hw, hrest⟩ := Row.len hrow
  have hlen : (l.length : Int) * 32 ≤ 140737488351232 := by omega
  have HREST : Hid _ := hrest
  have HN : Hid (w.cell? ⟨nb, 0, none⟩ = some (.string s)) := hn
  clear hrow hrest hn
  go_enter Try.func76, Try.ntmps76
  go_wp2_with fail
  go_loopw [8] (fun vi wr => ∃ j : Nat, j ≤ l.length ∧ vi = .int .i64 j ∧ Hid (∀ (m : Nat) (h : m < l.length), m < j → (l[m].1.toList == s.toList) = false) ∧ Hid (Below w.heap.size w wr)) (fun vi _ => l.length - (intOf vi).toNat)
  case atStart => exact ⟨0, Nat.zero_le _, rfl, fun _ _ h => absurd h (Nat.not_lt_zero _), Below.refl _ _⟩
  case round =>
    obtain ⟨j, hj, rfl, HNO, HB⟩ := hrel
    have hj12 : (j : Int) * 32 ≤ 140737488351232 := by omega
    by_cases hlt : j < l.length
    · have hlti : (j : Int) < (l.length : Int) := by omega
      obtain ⟨b, off, rfl, _, hcs⟩ := HREST.out (List.ne_nil_of_length_pos (by omega))
      obtain ⟨cs, _, hc, f, rfl, hf⟩ := hcs j hlt
      obtain ⟨T, y, rfl⟩ := FmR.iface hf
      have hk : Keeps 0 w wr := Keeps.of_below HB.out (Nat.le_refl _) _
      have hck := hc.keeps hk (Nat.zero_le _)
      have c0 : wr.cell? ⟨b, off + j * 2, none⟩ = some (.string l[j].1) := hck 0 (by simp)
      have c1 : wr.cell? ⟨b, off + j * 2 + 1, none⟩ = some (.iface T y) := hck 1 (by simp)
      have HP : Hid (∀ W, Below w.heap.size w W → Calls Try.prog 77 #[.agg #[.string l[j].1, .iface T y], .pointer (some ⟨nb, 0, none⟩)] W fun e w' => e = .returned (.bool (l[j].1.toList == s.toList)) ∧ Below W.heap.size W w') := fun W h => named_any _ _ _ _ _ _ (cell_on h HN.out)
      clear hc hf hcs hk hck
      cases heb : (l[j].1.toList == s.toList)
      · have HNO2 : Hid (∀ (m : Nat) (h : m < l.length), m < j + 1 → (l[m].1.toList == s.toList) = false) := fun m h hm => by
          rcases Nat.lt_succ_iff_lt_or_eq.1 hm with h1 | rfl
          · exact HNO.out m h h1
          · exact heb
        rw [heb] at HP
        clear heb
        go_wp2_with (go_at_call 77; refine (HP.out _ HB.out).mono ?_; rintro e w1 ⟨rfl, hb1⟩)
        exact ⟨⟨j + 1, by omega, by go_num, HNO2, HB.out.trans (hb1.mono HB.out.size)⟩, by simp [intOf]; omega⟩
      · have HE : Hid ((l[j].1.toList == s.toList) = true) := heb
        rw [heb] at HP
        clear heb
        go_wp2_with (go_at_call 77; refine (HP.out _ HB.out).mono ?_; rintro e w1 ⟨rfl, hb1⟩)
        go_ret
        exact ⟨_, rfl, Or.inl ⟨j, hlt, rfl, HE.out, HNO.out⟩, HB.out.trans (hb1.mono HB.out.size)⟩
    · have hlti : decide ((j : Int) < (l.length : Int)) = false := decide_eq_false (by omega)
      go_wp2_with fail
      go_ret
      exact ⟨_, rfl, Or.inr ⟨rfl, fun m h => HNO.out m h (by omega)⟩, HB.out⟩

set_option maxHeartbeats 1000000 in
theorem indexOf_any (k : Nat) (l : List (ByteArray × Vl)) (v : Value) (s : ByteArray) (w : World) (hrow : Row w 0 2 32 (BrC w 0 k) l v) :
    Calls Try.prog 56 #[v, .string s] w fun e w' => ∃ r, e = .returned (.int .i64 r) ∧ IdxP l s r ∧ Below w.heap.size w w' := by
  obtain ⟨a, cap, rfl, hw, _⟩ := Row.len hrow
  have HR : Hid (∀ W, Keeps 0 w W → Row W 0 2 32 (BrC W 0 k) l (.slice a l.length cap)) := fun W h => hrow.keeps h (BrC.keeps h k)
  have HC : Hid (Calls Try.prog 76 #[.slice a l.length cap, .func (.func 77) #[] #[.pointer (some ⟨w.heap.size, 0, none⟩)]] (w.alloc (.cells #[.string s] 9)) fun e w' => ∃ r, e = .returned (.int .i64 r) ∧ IdxP l s r ∧ Below (w.alloc (.cells #[.string s] 9)).heap.size (w.alloc (.cells #[.string s] 9)) w') :=
    index_any k l _ s w.heap.size _ (HR.out _ ((Keeps.refl _ _).alloc _)) ((Owns.made w #[.string s] 9).cell 0)
  clear hrow
  go_enter Try.func56, Try.ntmps56
  go_wp2_with fail
  refine (Hid.out HC).mono ?_
  rintro e w1 ⟨r, rfl, hi, hb1⟩
  have HB : Hid (Below w.heap.size w w1) := ((Below.refl _ _).alloc (Nat.le_refl _) _).trans (hb1.mono (by simp))
  have HI : Hid (IdxP l s r) := hi
  clear hb1 hi
  go_wp2_with fail
  go_ret
  exact ⟨r, rfl, HI.out, HB.out⟩

/-- What is found by its place is found. -/
theorem idx_find : ∀ (ns : List ByteArray) (xs : List Vl) (s : ByteArray), ns.length = xs.length → ∀ r, IdxP (ns.zip xs) s r →
    (r = -1 ∧ findL ns xs s = none) ∨ ∃ (i : Nat) (h : i < (ns.zip xs).length), r = (i : Int) ∧ findL ns xs s = some (ns.zip xs)[i].2 := by
  intro ns xs s hl r h
  have hz : (ns.zip xs).length = ns.length := by simp [hl]
  have hmiss : ∀ (j : Nat), j ≤ ns.length → (∀ (m : Nat) (h : m < (ns.zip xs).length), m < j → ((ns.zip xs)[m].1.toList == s.toList) = false) → findL ns xs s = findL (ns.drop j) (xs.drop j) s := by
    intro j
    induction j with
    | zero => intro _ _; simp
    | succ j ih =>
      intro hj hn
      rw [ih (by omega) (fun m hm hmj => hn m hm (by omega))]
      have h1 := hn j (by omega) (by omega)
      rw [List.getElem_zip] at h1
      exact findL_miss (by omega) (by omega) h1
  rcases h with ⟨i, hi, rfl, he, hno⟩ | ⟨rfl, hno⟩
  · refine Or.inr ⟨i, hi, rfl, ?_⟩
    rw [hmiss i (by omega) hno]
    rw [List.getElem_zip] at he ⊢
    exact findL_hit (by omega) (by omega) he
  · refine Or.inl ⟨rfl, ?_⟩
    rw [hmiss ns.length (Nat.le_refl _) (fun m hm _ => hno m hm), List.drop_eq_nil_of_le (Nat.le_refl _)]
    simp [findL]

end Go.Proofs.Ytehdepnemdbopaa
