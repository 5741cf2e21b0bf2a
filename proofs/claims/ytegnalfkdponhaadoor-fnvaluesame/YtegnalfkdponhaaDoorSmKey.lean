
/-
  DERIVED. PAIRS OF PLACES AS KEYS OF A MAP.
-/
import Derived.Test.YtegnalfkdponhaaDoorDeepP
import Derived.Test.YtegnalfkdponhaaDoorMapG
import Derived.Test.YtegnalfkdponhaaDoorRows
import Derived.WalkKit
import Derived.Laws.StructEq
import Derived.Laws.Pointers
import Derived.LaidEql
import Derived.ChangeKeysEq
import Derived.KernelRfl
namespace Go.Proofs.YtegnalfkdponhaaDoor
open Go.RowKit
set_option linter.unusedVariables false
set_option linter.unusedSimpArgs false

/-- A block that an address may be compared by. -/
def Plain (w : World) (a : Addr) : Prop := ∃ c e, w.heap[a.block]? = some (.cells c e (0, 0))

theorem ptr_eq {w : World} {a b : Addr} (ha : Plain w a) (hb : Plain w b) (d : Nat) :
    (Op.equalIn (d + 1) 66 (.pointer (some a)) (.pointer (some b))).run Tryd.prog w = .ok (decide (a = b)) w := by
  obtain ⟨ca, ea, ha⟩ := ha
  obtain ⟨cb, eb, hb⟩ := hb
  have hu := Tryd.underlying66
  have hsz : ∀ w, (sizeOf 30).run Tryd.prog w = .ok 5 w := fun w => by kernel_rfl
  by_cases h : a = b
  · subst h
    simp [Op.equalIn, run_underlying hu, hsz, run_sameAddr_same]
  · simp [Op.equalIn, run_underlying hu, hsz, run_sameAddr_other w h ha hb, h]

theorem int_eq (w : World) (d m n : Nat) : (Op.equalIn (d + 1) 3 (.int .i64 (m : Int)) (.int .i64 (n : Int))).run Tryd.prog w = .ok (decide (m = n)) w := by
  have u3 := Tryd.underlying3
  by_cases h : m = n
  · subst h; simp [Op.equalIn, run_underlying u3]
  · have h' : ((m : Int) == (n : Int)) = false := by simp; omega
    simp [Op.equalIn, run_underlying u3, h, h']

theorem place_eq {w : World} {a b : Addr} {m n : Nat} (ha : Plain w a) (hb : Plain w b) (d : Nat) :
    (Op.equalIn (d + 2) 68 (.agg #[.pointer (some a), .int .i64 (m : Int)]) (.agg #[.pointer (some b), .int .i64 (n : Int)])).run Tryd.prog w = .ok (decide (a = b ∧ m = n)) w := by
  have hS : Tryd.prog.underlying 68 = some (.struct (Tryd.prog.fieldsOf 68)) := by kernel_rfl
  have hp : Tryd.prog.stoodInHeld 68 = false := by kernel_rfl
  have p1 : ∀ (x : Addr) (k : Int) w, (part 66 #[.pointer (some x), .int .i64 k] 0).run Tryd.prog w = .ok (.pointer (some x)) w := fun x k w => by kernel_rfl
  have p2 : ∀ (x : Addr) (k : Int) w, (part 3 #[.pointer (some x), .int .i64 k] 1).run Tryd.prog w = .ok (.int .i64 k) w := fun x k w => by kernel_rfl
  rw [run_equalIn_agg w (d + 1) 68 _ _ hS hp]
  have hf : (Tryd.prog.fieldsOf 68).toList.map (fun f => (f.name, f.type, f.offset)) = [("first", 66, 0), ("size", 3, 1)] := by kernel_rfl
  obtain ⟨f1, r1, hl1, h1, hr1⟩ := List.map_eq_cons_iff.1 hf
  obtain ⟨f2, r2, hl2, h2, hr2⟩ := List.map_eq_cons_iff.1 hr1
  have hr3 : r2 = [] := List.map_eq_nil_iff.1 hr2
  subst hr3
  rw [hl1, hl2]
  simp only [Prod.mk.injEq] at h1 h2
  obtain ⟨n1, t1, o1⟩ := h1
  obtain ⟨n2, t2, o2⟩ := h2
  have hi : ∀ w, (Op.equalIn (d + 1) 3 (.int .i64 (m : Int)) (.int .i64 (n : Int))).run Tryd.prog w = .ok (decide (m = n)) w := fun w => int_eq w d m n
  simp only [Op.eqFields, n1, t1, o1, n2, t2, o2, ne_eq, String.reduceEq, not_false_eq_true, if_true, Sem.run_bind, p1, p2, Result.andThen_ok, ptr_eq ha hb d]
  by_cases h : a = b
  · subst h
    simp only [decide_true, Bool.not_true, Bool.false_eq_true, if_false, Sem.run_bind, p2, Result.andThen_ok, hi]
    by_cases h' : m = n <;> simp [h']
  · simp [h]

/-- A key: two places. -/
abbrev Pl2 := (Addr × Nat) × (Addr × Nat)
def kv2 (k : Pl2) : Value := .agg #[.pointer (some k.1.1), .int .i64 (k.1.2 : Int), .pointer (some k.2.1), .int .i64 (k.2.2 : Int)]
def G2 (w : World) (k : Pl2) : Prop := Plain w k.1.1 ∧ Plain w k.2.1

theorem key2_eq {w : World} {j k : Pl2} (hj : G2 w j) (hk : G2 w k) : (Op.equal 70 (kv2 j) (kv2 k)).run Tryd.prog w = .ok (decide (j = k)) w := by
  have hS : Tryd.prog.underlying 70 = some (.array 2 68) := by kernel_rfl
  obtain ⟨i, hi⟩ : ∃ i, Tryd.prog.info? 68 = some i := by
    have h : (Tryd.prog.info? 68).isSome = true := by kernel_rfl
    exact Option.isSome_iff_exists.1 h
  have hc : Tryd.prog.cellsOf 68 = 2 := by kernel_rfl
  have p1 : ∀ (x y : Addr) (k l : Int) w, (part 68 #[.pointer (some x), .int .i64 k, .pointer (some y), .int .i64 l] 0).run Tryd.prog w = .ok (.agg #[.pointer (some x), .int .i64 k]) w := fun x y k l w => by kernel_rfl
  have p2 : ∀ (x y : Addr) (k l : Int) w, (part 68 #[.pointer (some x), .int .i64 k, .pointer (some y), .int .i64 l] 2).run Tryd.prog w = .ok (.agg #[.pointer (some y), .int .i64 l]) w := fun x y k l w => by kernel_rfl
  show (Op.equalIn (9999 + 1) _ (.agg _) (.agg _)).run _ _ = _
  rw [run_equalIn_array w 9999 _ _ hS hi, hc]
  obtain ⟨⟨a, m⟩, ⟨b, n⟩⟩ := j
  obtain ⟨⟨a', m'⟩, ⟨b', n'⟩⟩ := k
  have e1 := place_eq (m := m) (n := m') hj.1 hk.1 9997
  have e2 := place_eq (m := n) (n := n') hj.2 hk.2 9997
  simp only at e1 e2
  have hr : List.range 2 = [0, 1] := rfl
  rw [hr]
  simp only [Op.eqItems, Sem.run_bind, Nat.zero_mul, Nat.one_mul, p1, p2, Result.andThen_ok, e1, e2]
  by_cases h : a = a' ∧ m = m'
  · simp only [h, and_self, decide_true, Bool.not_true, Bool.false_eq_true, if_false, Sem.run_bind, Nat.one_mul, p2, Result.andThen_ok, e2]
    by_cases h' : b = b' ∧ n = n'
    · simp [h']
    · have h2 : ¬ ((a', m'), (b, n)) = ((a', m'), (b', n')) := fun e => h' (by simpa using e)
      simp [h', h2]
  · have h2 : ¬ ((a, m), (b, n)) = ((a', m'), (b', n')) := fun e => h (by simp at e; exact e.1)
    simp [h, h2]

theorem find_asking2 {w : World} {a : Pl2} (ha : G2 w a) : ∀ (km : List (Pl2 × Int)) (es : List MapEntry) (i : Nat), EntsG kv2 km es → (∀ e ∈ km, G2 w e.1) →
    (Instr.findAsking 70 (kv2 a) es i).run Tryd.prog w = .ok ((findG a km i).map fun p => (p.1, Value.int .i64 p.2)) w
  | [], [], i, _, _ => by simp [Instr.findAsking, findG]
  | [], _ :: _, i, h, _ => h.elim
  | _ :: _, [], i, h, _ => h.elim
  | e :: km, b :: es, i, ⟨hb, hr⟩, hp => by
    have h1 := key2_eq ha (hp e List.mem_cons_self)
    have ih := find_asking2 ha km es (i + 1) hr (fun x hx => hp x (List.mem_cons_of_mem _ hx))
    obtain ⟨ea, ev⟩ := e
    unfold Instr.findAsking findG
    rw [hb.1]
    simp only [Sem.run_bind, h1, Result.andThen_ok]
    by_cases h : a = ea
    · simp [h, hb.2]
    · simp only [h, decide_false, if_false, Bool.false_eq_true]
      exact ih

theorem keyOk2 : KeyOk Tryd.prog 70 kv2 G2 where
  find := by
    intro w a km es h ha hp
    have hu : Tryd.prog.underlying 70 = some (.array 2 68) := by kernel_rfl
    have hf := find_asking2 ha km es 0 h hp
    unfold Instr.findKey
    simp only [Sem.run_bind, run_underlying hu, Result.andThen_ok]
    cases es with
    | nil =>
      cases km with
      | nil => simp [Instr.findNow, findG]
      | cons e r => exact h.elim
    | cons b r =>
      simp only [Instr.findNow, Instr.sameNow]
      exact hf
  check := fun e a w => by obtain ⟨⟨a, m⟩, ⟨b, n⟩⟩ := a; kernel_rfl
  bits := fun a => by simp [kv2, Instr.sameBits]
  stay := by
    intro w r es clock o a hr ha
    have hs : ∀ p : Addr, Plain w p → Plain { w with heap := w.heap.setIfInBounds r o } p := fun p ⟨c, e, hp⟩ => by
      have hne : r ≠ p.block := fun h => by subst h; rw [hr] at hp; simp at hp
      exact ⟨c, e, by show (w.heap.setIfInBounds r o)[p.block]? = _; rw [Array.getElem?_setIfInBounds_ne hne]; exact hp⟩
    exact ⟨hs _ ha.1, hs _ ha.2⟩

theorem map2_underlying : Tryd.prog.underlying 63 = some (.map 70 3) := by kernel_rfl
theorem zero_int (w : World) : (zeroValue 3).run Tryd.prog w = .ok (.int .i64 0) w := by kernel_rfl

end Go.Proofs.YtegnalfkdponhaaDoor
