
/-
  DERIVED. PLACES AS KEYS OF A MAP: when two are the same; what is looked up, what an update does.
-/
import Derived.Test.YtedeeckbgjalcaaDeepP
import Derived.Test.YtedeeckbgjalcaaRows
import Derived.WalkKit
import Derived.Laws.StructEq
import Derived.Laws.Pointers
import Derived.LaidEql
import Derived.KernelRfl
namespace Go.Proofs.Ytedeeckbgjalcaa
open Go.RowKit
set_option linter.unusedVariables false
set_option linter.unusedSimpArgs false

/-- A block that an address may be compared by. -/
def Plain (w : World) (a : Addr) : Prop := ∃ c e, w.heap[a.block]? = some (.cells c e (0, 0))

theorem ptr_eq {w : World} {a b : Addr} (ha : Plain w a) (hb : Plain w b) (d : Nat) :
    (Op.equalIn (d + 1) 99 (.pointer (some a)) (.pointer (some b))).run Try.prog w = .ok (decide (a = b)) w := by
  obtain ⟨ca, ea, ha⟩ := ha
  obtain ⟨cb, eb, hb⟩ := hb
  have hu := Try.underlying99
  have hsz : ∀ w, (sizeOf 26).run Try.prog w = .ok 5 w := fun w => by kernel_rfl
  by_cases h : a = b
  · subst h
    simp [Op.equalIn, run_underlying hu, hsz, run_sameAddr_same]
  · simp [Op.equalIn, run_underlying hu, hsz, run_sameAddr_other w h ha hb, h]

theorem int_eq (w : World) (d m n : Nat) : (Op.equalIn (d + 1) 3 (.int .i64 (m : Int)) (.int .i64 (n : Int))).run Try.prog w = .ok (decide (m = n)) w := by
  have u3 := Try.underlying3
  by_cases h : m = n
  · subst h; simp [Op.equalIn, run_underlying u3]
  · have h' : ((m : Int) == (n : Int)) = false := by simp; omega
    simp [Op.equalIn, run_underlying u3, h, h']

def keyV (a : Addr) (n : Nat) : Value := .agg #[.pointer (some a), .int .i64 (n : Int)]

theorem key_eq {w : World} {a b : Addr} {m n : Nat} (ha : Plain w a) (hb : Plain w b) :
    (Op.equal 101 (keyV a m) (keyV b n)).run Try.prog w = .ok (decide (a = b ∧ m = n)) w := by
  have hS : Try.prog.underlying 101 = some (.struct (Try.prog.fieldsOf 101)) := by kernel_rfl
  have hp : Try.prog.stoodInHeld 101 = false := by kernel_rfl
  have u3 := Try.underlying3
  have p1 : ∀ (x : Addr) (k : Int) w, (part 99 #[.pointer (some x), .int .i64 k] 0).run Try.prog w = .ok (.pointer (some x)) w := fun x k w => by kernel_rfl
  have p2 : ∀ (x : Addr) (k : Int) w, (part 3 #[.pointer (some x), .int .i64 k] 1).run Try.prog w = .ok (.int .i64 k) w := fun x k w => by kernel_rfl
  show (Op.equalIn (9999 + 1) _ (.agg _) (.agg _)).run _ _ = _
  rw [run_equalIn_agg w 9999 101 _ _ hS hp]
  have hf : (Try.prog.fieldsOf 101).toList.map (fun f => (f.name, f.type, f.offset)) = [("first", 99, 0), ("size", 3, 1)] := by kernel_rfl
  obtain ⟨f1, r1, hl1, h1, hr1⟩ := List.map_eq_cons_iff.1 hf
  obtain ⟨f2, r2, hl2, h2, hr2⟩ := List.map_eq_cons_iff.1 hr1
  have hr3 : r2 = [] := List.map_eq_nil_iff.1 hr2
  subst hr3
  rw [hl1, hl2]
  simp only [Prod.mk.injEq] at h1 h2
  obtain ⟨n1, t1, o1⟩ := h1
  obtain ⟨n2, t2, o2⟩ := h2
  have hi : ∀ w, (Op.equalIn 9999 3 (.int .i64 (m : Int)) (.int .i64 (n : Int))).run Try.prog w = .ok (decide (m = n)) w := fun w => int_eq w 9998 m n
  simp only [Op.eqFields, n1, t1, o1, n2, t2, o2, ne_eq, String.reduceEq, not_false_eq_true, if_true, Sem.run_bind, p1, p2, Result.andThen_ok, ptr_eq ha hb 9998]
  by_cases h : a = b
  · subst h
    simp only [decide_true, Bool.not_true, Bool.false_eq_true, if_false, Sem.run_bind, p2, Result.andThen_ok, hi]
    by_cases h' : m = n <;> simp [h']
  · simp [h]

/-- Entries by places: what lies at a place and a size, and its place among them. -/
def findK (a : Addr) (n : Nat) : List (Addr × Nat × Int) → Nat → Option (Nat × Int)
  | [], _ => none
  | (b, m, v) :: r, i => if a = b ∧ n = m then some (i, v) else findK a n r (i + 1)

def entryOf (e : Addr × Nat × Int) (b : MapEntry) : Prop := b.key = keyV e.1 e.2.1 ∧ b.val = .int .i64 e.2.2

def Ents : List (Addr × Nat × Int) → List MapEntry → Prop
  | [], [] => True
  | e :: r, b :: s => entryOf e b ∧ Ents r s
  | _, _ => False

theorem find_asking {w : World} {a : Addr} {n : Nat} (ha : Plain w a) : ∀ (km : List (Addr × Nat × Int)) (es : List MapEntry) (i : Nat), Ents km es → (∀ e ∈ km, Plain w e.1) →
    (Instr.findAsking 101 (keyV a n) es i).run Try.prog w = .ok ((findK a n km i).map fun p => (p.1, Value.int .i64 p.2)) w
  | [], [], i, _, _ => by simp [Instr.findAsking, findK]
  | [], _ :: _, i, h, _ => h.elim
  | _ :: _, [], i, h, _ => h.elim
  | e :: km, b :: es, i, ⟨hb, hr⟩, hp => by
    have h1 := key_eq (n := e.2.1) (m := n) ha (hp e List.mem_cons_self)
    have ih := find_asking (n := n) ha km es (i + 1) hr (fun x hx => hp x (List.mem_cons_of_mem _ hx))
    obtain ⟨ea, en, ev⟩ := e
    simp only [entryOf] at hb
    unfold Instr.findAsking findK
    rw [hb.1]
    simp only [Sem.run_bind, h1, Result.andThen_ok]
    by_cases h : a = ea ∧ n = en
    · simp [h, hb.2]
    · simp only [h, decide_false, if_false, Bool.false_eq_true]
      exact ih

end Go.Proofs.Ytedeeckbgjalcaa
