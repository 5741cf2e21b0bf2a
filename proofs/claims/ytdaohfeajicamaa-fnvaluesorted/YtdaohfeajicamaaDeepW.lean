
/-
  DERIVED. PLACES AS KEYS OF A MAP: when two are the same; what is looked up, what an update does.
-/
import Derived.Test.YtdaohfeajicamaaDeepP
import Derived.Test.YtdaohfeajicamaaRows
import Derived.WalkKit
import Derived.Laws.StructEq
import Derived.Laws.Pointers
import Derived.LaidEql
import Derived.KernelRfl
import Derived.MapKept
import Derived.WalkSpells
import Derived.WalkLawsBesides
import Derived.Laws.OwnMore
import Derived.Deep.QuietTactic
import Derived.BigQuiet
import Derived.Deep.RegionWith
import Derived.Deep.RegionHeld3
import Derived.Deep.AppendLies
import Derived.Test.YtdaohfeajicamaaVSz
import Derived.Deep.LoopGhost
namespace Go.Proofs.Ytdaohfeajicamaa
open Go.RowKit
set_option linter.unusedVariables false
set_option linter.unusedSimpArgs false

/-- A block that an address may be compared by. -/
def Plain (w : World) (a : Addr) : Prop := ∃ c e, w.heap[a.block]? = some (.cells c e (0, 0))

theorem ptr_eq {w : World} {a b : Addr} (ha : Plain w a) (hb : Plain w b) (d : Nat) :
    (Op.equalIn (d + 1) 122 (.pointer (some a)) (.pointer (some b))).run Try.prog w = .ok (decide (a = b)) w := by
  obtain ⟨ca, ea, ha⟩ := ha
  obtain ⟨cb, eb, hb⟩ := hb
  have hu := Try.underlying122
  have hsz : ∀ w, (sizeOf 29).run Try.prog w = .ok 5 w := fun w => by kernel_rfl
  by_cases h : a = b
  · subst h
    simp [Op.equalIn, run_underlying hu, hsz, run_sameAddr_same]
  · simp [Op.equalIn, run_underlying hu, hsz, run_sameAddr_other w h ha hb, h]

theorem int_eq (w : World) (d m n : Nat) : (Op.equalIn (d + 1) 3 (.int .i64 (m : Int)) (.int .i64 (n : Int))).run Try.prog w = .ok (decide (m = n)) w := by
  have u3 := Try.underlying3
  by_cases h : m = n
  · subst h; simp [Op.equalIn, run_underlying u3]
  · have h' : ((m : Int) == (n : Int)) = false := by simp; omega
    simp [Op.equalIn, run_underlying u3, h, h']

def keyV (a : Addr) (n : Nat) : Value := .agg #[.pointer (some a), .int .i64 (n : Int)]

theorem key_eq {w : World} {a b : Addr} {m n : Nat} (ha : Plain w a) (hb : Plain w b) :
    (Op.equal 124 (keyV a m) (keyV b n)).run Try.prog w = .ok (decide (a = b ∧ m = n)) w := by
  have hS : Try.prog.underlying 124 = some (.struct (Try.prog.fieldsOf 124)) := by kernel_rfl
  have hp : Try.prog.stoodInHeld 124 = false := by kernel_rfl
  have u3 := Try.underlying3
  have p1 : ∀ (x : Addr) (k : Int) w, (part 122 #[.pointer (some x), .int .i64 k] 0).run Try.prog w = .ok (.pointer (some x)) w := fun x k w => by kernel_rfl
  have p2 : ∀ (x : Addr) (k : Int) w, (part 3 #[.pointer (some x), .int .i64 k] 1).run Try.prog w = .ok (.int .i64 k) w := fun x k w => by kernel_rfl
  show (Op.equalIn (9999 + 1) _ (.agg _) (.agg _)).run _ _ = _
  rw [run_equalIn_agg w 9999 124 _ _ hS hp]
  have hf : (Try.prog.fieldsOf 124).toList.map (fun f => (f.name, f.type, f.offset)) = [("first", 122, 0), ("size", 3, 1)] := by kernel_rfl
  obtain ⟨f1, r1, hl1, h1, hr1⟩ := List.map_eq_cons_iff.1 hf
  obtain ⟨f2, r2, hl2, h2, hr2⟩ := List.map_eq_cons_iff.1 hr1
  have hr3 : r2 = [] := List.map_eq_nil_iff.1 hr2
  subst hr3
  rw [hl1, hl2]
  simp only [Prod.mk.injEq] at h1 h2
  obtain ⟨n1, t1, o1⟩ := h1
  obtain ⟨n2, t2, o2⟩ := h2
  have hi : ∀ w, (Op.equalIn 9999 3 (.int .i64 (m : Int)) (.int .i64 (n : Int))).run Try.prog w = .ok (decide (m = n)) w := fun w => int_eq w 9998 m n
  simp only [Op.eqFields, n1, t1, o1, n2, t2, o2, ne_eq, String.reduceEq, not_false_eq_true, if_true, Sem.run_bind, p1, p2, Result.andThen_ok, ptr_eq ha hb 9998]
  by_cases h : a = b
  · subst h
    simp only [decide_true, Bool.not_true, Bool.false_eq_true, if_false, Sem.run_bind, p2, Result.andThen_ok, hi]
    by_cases h' : m = n <;> simp [h']
  · simp [h]

/-- Entries by places: what lies at a place and a size, and its place among them. -/
def findK (a : Addr) (n : Nat) : List (Addr × Nat × Int) → Nat → Option (Nat × Int)
  | [], _ => none
  | (b, m, v) :: r, i => if a = b ∧ n = m then some (i, v) else findK a n r (i + 1)

def entryOf (e : Addr × Nat × Int) (b : MapEntry) : Prop := b.key = keyV e.1 e.2.1 ∧ b.val = .int .i64 e.2.2

def Ents : List (Addr × Nat × Int) → List MapEntry → Prop
  | [], [] => True
  | e :: r, b :: s => entryOf e b ∧ Ents r s
  | _, _ => False

theorem find_asking {w : World} {a : Addr} {n : Nat} (ha : Plain w a) : ∀ (km : List (Addr × Nat × Int)) (es : List MapEntry) (i : Nat), Ents km es → (∀ e ∈ km, Plain w e.1) →
    (Instr.findAsking 124 (keyV a n) es i).run Try.prog w = .ok ((findK a n km i).map fun p => (p.1, Value.int .i64 p.2)) w
  | [], [], i, _, _ => by simp [Instr.findAsking, findK]
  | [], _ :: _, i, h, _ => h.elim
  | _ :: _, [], i, h, _ => h.elim
  | e :: km, b :: es, i, ⟨hb, hr⟩, hp => by
    have h1 := key_eq (n := e.2.1) (m := n) ha (hp e List.mem_cons_self)
    have ih := find_asking (n := n) ha km es (i + 1) hr (fun x hx => hp x (List.mem_cons_of_mem _ hx))
    obtain ⟨ea, en, ev⟩ := e
    simp only [entryOf] at hb
    unfold Instr.findAsking findK
    rw [hb.1]
    simp only [Sem.run_bind, h1, Result.andThen_ok]
    by_cases h : a = ea ∧ n = en
    · simp [h, hb.2]
    · simp only [h, decide_false, if_false, Bool.false_eq_true]
      exact ih

end Go.Proofs.Ytdaohfeajicamaa

namespace Go.Proofs.Ytdaohfeajicamaa
open Go.RowKit
set_option linter.unusedVariables false
set_option linter.unusedSimpArgs false

def MapIs (w : World) (r : Nat) (km : List (Addr × Nat × Int)) : Prop := ∃ es clock, w.heap[r]? = some (.map es clock) ∧ Ents km es.toList

/-- What is known of a place: 0, if nothing is. -/
def knownK (km : List (Addr × Nat × Int)) (a : Addr) (n : Nat) : Int := ((findK a n km 0).map (·.2)).getD 0

theorem check_key (e : Bool) (a : Addr) (n : Nat) (w : World) : (Instr.checkKey e 10000 124 (keyV a n)).run Try.prog w = .ok () w := by kernel_rfl

theorem find_key {w : World} {a : Addr} {n : Nat} {km : List (Addr × Nat × Int)} {es : List MapEntry} (ha : Plain w a) (h : Ents km es) (hp : ∀ e ∈ km, Plain w e.1) :
    (Instr.findKey 124 (keyV a n) es).run Try.prog w = .ok ((findK a n km 0).map fun p => (p.1, Value.int .i64 p.2)) w := by
  have hu : Try.prog.underlying 124 = some (.struct (Try.prog.fieldsOf 124)) := by kernel_rfl
  have hf := find_asking (n := n) ha km es 0 h hp
  unfold Instr.findKey
  simp only [Sem.run_bind, run_underlying hu, Result.andThen_ok]
  cases es with
  | nil =>
    cases km with
    | nil => simp [Instr.findNow, findK]
    | cons e r => exact h.elim
  | cons b r =>
    simp only [Instr.findNow, Instr.sameNow]
    exact hf

theorem run_lookup_place {w : World} {r n : Nat} {a : Addr} {km : List (Addr × Nat × Int)} (hm : MapIs w r km) (ha : Plain w a) (hp : ∀ e ∈ km, Plain w e.1) :
    (Instr.lookup 102 (.map (some r)) (keyV a n) false).run Try.prog w = .ok (.int .i64 (knownK km a n)) w := by
  obtain ⟨es, clock, h1, h2⟩ := hm
  have hu : Try.prog.underlying 102 = some (.map 124 3) := by kernel_rfl
  have hz : ∀ w, (zeroValue 3).run Try.prog w = .ok (.int .i64 0) w := fun w => by kernel_rfl
  unfold Instr.lookup
  simp only [Sem.run_bind, run_underlying hu, Result.andThen_ok, MapKept.run_getObj_map h1, check_key, find_key ha h2 hp, Sem.run_pure]
  unfold knownK
  cases hk : findK a n km 0 with
  | none => simp [hz]
  | some p => simp

/-- The entries with one set. -/
def updK (km : List (Addr × Nat × Int)) (a : Addr) (n : Nat) (v : Int) : List (Addr × Nat × Int) :=
  match findK a n km 0 with
  | some p => km.set p.1 (a, n, v)
  | none => km ++ [(a, n, v)]

theorem findK_shift (a : Addr) (n : Nat) : ∀ (km : List (Addr × Nat × Int)) (i : Nat), findK a n km (i + 1) = (findK a n km i).map fun p => (p.1 + 1, p.2)
  | [], _ => rfl
  | (b, m, v) :: r, i => by
    unfold findK
    split
    · rfl
    · exact findK_shift a n r (i + 1)
theorem findK_some {a : Addr} {n : Nat} : ∀ {km : List (Addr × Nat × Int)} {p : Nat × Int}, findK a n km 0 = some p → ∃ h : p.1 < km.length, km[p.1] = (a, n, p.2)
  | [], p, h => by simp [findK] at h
  | (b, m, v) :: r, p, h => by
    unfold findK at h
    split at h
    · rename_i he
      simp only [Option.some.injEq] at h
      subst h
      exact ⟨by simp, by simp [he.1, he.2]⟩
    · rw [findK_shift] at h
      simp only [Option.map_eq_some_iff] at h
      obtain ⟨q, h1, rfl⟩ := h
      obtain ⟨h2, h3⟩ := findK_some h1
      exact ⟨by simpa using h2, by simpa using h3⟩

theorem Ents.len : ∀ {km : List (Addr × Nat × Int)} {es : List MapEntry}, Ents km es → km.length = es.length
  | [], [], _ => rfl
  | [], _ :: _, h => h.elim
  | _ :: _, [], h => h.elim
  | _ :: _, _ :: _, h => by simp [Ents.len h.2]
theorem Ents.get : ∀ {km : List (Addr × Nat × Int)} {es : List MapEntry}, Ents km es → ∀ (i : Nat) (h : i < km.length) (h' : i < es.length), entryOf km[i] es[i]
  | [], [], _, i, h, _ => by simp at h
  | [], _ :: _, h, _, _, _ => h.elim
  | _ :: _, [], h, _, _, _ => h.elim
  | _ :: _, _ :: _, h, 0, _, _ => h.1
  | _ :: _, _ :: _, h, i + 1, h1, h2 => Ents.get h.2 i (by simpa using h1) (by simpa using h2)
theorem Ents.set : ∀ {km : List (Addr × Nat × Int)} {es : List MapEntry}, Ents km es → ∀ (i : Nat) {e : Addr × Nat × Int} {b : MapEntry}, entryOf e b → Ents (km.set i e) (es.set i b)
  | [], [], h, i, _, _, _ => by simpa using h
  | [], _ :: _, h, _, _, _, _ => h.elim
  | _ :: _, [], h, _, _, _, _ => h.elim
  | _ :: _, _ :: _, h, 0, _, _, hb => ⟨hb, h.2⟩
  | _ :: _, _ :: _, h, i + 1, _, _, hb => ⟨h.1, Ents.set h.2 i hb⟩
theorem Ents.snoc : ∀ {km : List (Addr × Nat × Int)} {es : List MapEntry}, Ents km es → ∀ {e : Addr × Nat × Int} {b : MapEntry}, entryOf e b → Ents (km ++ [e]) (es ++ [b])
  | [], [], _, _, _, hb => ⟨hb, trivial⟩
  | [], _ :: _, h, _, _, _ => h.elim
  | _ :: _, [], h, _, _, _ => h.elim
  | _ :: _, _ :: _, h, _, _, hb => ⟨h.1, Ents.snoc h.2 hb⟩

theorem same_bits (a : Addr) (n : Nat) : Instr.sameBits 10000 (keyV a n) (keyV a n) = true := by
  simp [keyV, Instr.sameBits]

/-- The map's block with other entries, all else as it was. -/
theorem run_update_place {w : World} {r n : Nat} {a : Addr} {km : List (Addr × Nat × Int)} (v : Int) (hm : MapIs w r km) (ha : Plain w a) (hp : ∀ e ∈ km, Plain w e.1) :
    ∃ o, (Instr.mapUpdate 102 (.map (some r)) (keyV a n) (.int .i64 v)).run Try.prog w = .ok () { w with heap := w.heap.setIfInBounds r o } ∧ MapIs { w with heap := w.heap.setIfInBounds r o } r (updK km a n v) := by
  obtain ⟨es, clock, h1, h2⟩ := hm
  have hlt : r < w.heap.size := by
    by_cases hx : r < w.heap.size
    · exact hx
    · rw [Array.getElem?_eq_none (by omega)] at h1; simp at h1
  have hu : Try.prog.underlying 102 = some (.map 124 3) := by kernel_rfl
  have hl := h2.len
  unfold Instr.mapUpdate updK
  simp only [Sem.run_bind, run_underlying hu, Result.andThen_ok, MapKept.run_getObj_map h1, check_key, find_key ha h2 hp]
  cases hk : findK a n km 0 with
  | none =>
    refine ⟨.map (es.push { key := keyV a n, val := .int .i64 v, born := clock }) (clock + 1), ?_, es.push { key := keyV a n, val := .int .i64 v, born := clock }, clock + 1, ?_, ?_⟩
    · simp only [Option.map_none]
      exact MapKept.run_setObj_map _ h1
    · simp [hlt]
    · rw [Array.toList_push]
      exact h2.snoc ⟨rfl, rfl⟩
  | some p =>
    obtain ⟨hp1, hp2⟩ := findK_some hk
    have hpe : p.1 < es.size := by rw [← Array.length_toList]; omega
    have hkey : es[p.1].key = keyV a n := by
      have := (h2.get p.1 hp1 (by rw [Array.length_toList]; exact hpe)).1
      rw [hp2] at this
      simpa using this
    have hst : (Instr.keyThatStays (((es[p.1]?).map (·.key)).getD (keyV a n)) (keyV a n)).run Try.prog w = .ok (keyV a n) w := by
      unfold Instr.keyThatStays
      rw [Array.getElem?_eq_getElem hpe, Option.map_some, Option.getD_some, hkey, same_bits, if_pos rfl]
      rfl
    refine ⟨.map (es.modify p.1 fun e => { e with key := keyV a n, val := .int .i64 v }) clock, ?_, es.modify p.1 fun e => { e with key := keyV a n, val := .int .i64 v }, clock, ?_, ?_⟩
    · simp only [Option.map_some, Sem.run_bind, hst, Result.andThen_ok]
      exact MapKept.run_setObj_map _ h1
    · simp [hlt]
    · have hmod : (es.modify p.1 fun e => { e with key := keyV a n, val := .int .i64 v }).toList = es.toList.set p.1 { es[p.1] with key := keyV a n, val := .int .i64 v } := by
        rw [Array.toList_modify]
        apply List.ext_getElem?
        intro i
        rw [List.getElem?_modify, List.getElem?_set]
        by_cases hi : p.1 = i
        · subst hi; simp [hpe]
        · simp [hi]
      rw [hmod]
      exact h2.set p.1 ⟨rfl, rfl⟩

def lookK (a : Addr) (n : Nat) : List (Addr × Nat × Int) → Option Int
  | [] => none
  | (b, m, v) :: r => if a = b ∧ n = m then some v else lookK a n r
theorem findK_look (a : Addr) (n : Nat) : ∀ (km : List (Addr × Nat × Int)) (i : Nat), (findK a n km i).map (·.2) = lookK a n km
  | [], _ => rfl
  | (b, m, v) :: r, i => by
    unfold findK lookK
    split
    · rfl
    · exact findK_look a n r (i + 1)
def updR (a : Addr) (n : Nat) (v : Int) : List (Addr × Nat × Int) → List (Addr × Nat × Int)
  | [] => [(a, n, v)]
  | (b, m, u) :: r => if a = b ∧ n = m then (a, n, v) :: r else (b, m, u) :: updR a n v r
theorem updK_updR (a : Addr) (n : Nat) (v : Int) : ∀ km : List (Addr × Nat × Int), updK km a n v = updR a n v km
  | [] => rfl
  | (b, m, u) :: r => by
    have ih := updK_updR a n v r
    unfold updK at ih ⊢
    unfold findK updR
    by_cases h : a = b ∧ n = m
    · rw [if_pos h, if_pos h]; rfl
    · rw [if_neg h, if_neg h, findK_shift, ← ih]
      cases findK a n r 0 <;> rfl
theorem lookK_updR (a b : Addr) (n m : Nat) (v : Int) : ∀ km : List (Addr × Nat × Int), lookK b m (updR a n v km) = if b = a ∧ m = n then some v else lookK b m km
  | [] => by simp [updR, lookK]
  | (c, k, u) :: r => by
    have ih := lookK_updR a b n m v r
    unfold updR
    by_cases h : a = c ∧ n = k
    · rw [if_pos h]
      obtain ⟨rfl, rfl⟩ := h
      unfold lookK
      by_cases h2 : b = a ∧ m = n
      · rw [if_pos h2, if_pos h2]
      · rw [if_neg h2, if_neg h2, if_neg h2]
    · rw [if_neg h]
      unfold lookK
      rw [ih]
      by_cases h3 : b = c ∧ m = k
      · rw [if_pos h3, if_pos h3, if_neg (fun h4 => h ⟨h4.1.symm.trans h3.1, h4.2.symm.trans h3.2⟩)]
      · rw [if_neg h3, if_neg h3]
theorem knownK_eq (km : List (Addr × Nat × Int)) (a : Addr) (n : Nat) : knownK km a n = (lookK a n km).getD 0 := by
  unfold knownK; rw [findK_look]
theorem knownK_upd {km : List (Addr × Nat × Int)} {a b : Addr} {n m : Nat} {v : Int} : knownK (updK km a n v) b m = if b = a ∧ m = n then v else knownK km b m := by
  rw [knownK_eq, knownK_eq, updK_updR, lookK_updR]
  split <;> rfl
theorem updR_mem {a : Addr} {n : Nat} {v : Int} {P : Addr → Prop} (ha : P a) : ∀ {km : List (Addr × Nat × Int)}, (∀ e ∈ km, P e.1) → ∀ e ∈ updR a n v km, P e.1
  | [], _, e, he => by simp [updR] at he; rw [he]; exact ha
  | (b, m, u) :: r, h, e, he => by
    unfold updR at he
    split at he
    · rcases List.mem_cons.1 he with rfl | he
      · exact ha
      · exact h e (List.mem_cons_of_mem _ he)
    · rcases List.mem_cons.1 he with rfl | he
      · exact h _ List.mem_cons_self
      · exact updR_mem ha (fun x hx => h x (List.mem_cons_of_mem _ hx)) e he
theorem updK_mem {km : List (Addr × Nat × Int)} {a : Addr} {n : Nat} {v : Int} {P : Addr → Prop} (ha : P a) (h : ∀ e ∈ km, P e.1) : ∀ e ∈ updK km a n v, P e.1 := by
  rw [updK_updR]; exact updR_mem ha h

end Go.Proofs.Ytdaohfeajicamaa

namespace Go.Proofs.Ytdaohfeajicamaa
open Go.RowKit
set_option linter.unusedVariables false
set_option linter.unusedSimpArgs false

theorem Plain.below {B : Nat} {w w' : World} {a : Addr} (h : Plain w a) (hb : Below B w w') (ha : a.block < B) : Plain w' a := by
  obtain ⟨c, e, h⟩ := h
  exact ⟨c, e, by rw [hb.block _ ha]; exact h⟩

/-- All its blocks lie below B. -/
def PIn (w : World) (B : Nat) : Nat → List Vl → Value → Prop
  | 0, l, v => l = [] ∧ ∃ a c, v = .slice a 0 c
  | k + 1, l, v => (l = [] ∧ ∃ a c, v = .slice a 0 c) ∨ ∃ b off c, v = .slice (some ⟨b, off, none⟩) l.length c ∧ b < B ∧ Plain w ⟨b, off, none⟩ ∧ l.length * 80 ≤ 140737488351232 ∧
      ∀ (i : Nat) (h : i < l.length), ∃ vl, w.cell? ⟨b, off + i * 5 + 3, none⟩ = some vl ∧ PIn w B k l[i].list vl

theorem PIn.keep {B : Nat} {w w' : World} (hb : Below B w w') : ∀ (k : Nat) (l : List Vl) (v : Value), PIn w B k l v → PIn w' B k l v
  | 0, _, _, h => h
  | k + 1, l, v, h => by
    rcases h with h | ⟨b, off, c, h1, h2, h3, h4, h5⟩
    · exact Or.inl h
    · refine Or.inr ⟨b, off, c, h1, h2, h3.below hb h2, h4, fun i hi => ?_⟩
      obtain ⟨vl, d1, d2⟩ := h5 i hi
      exact ⟨vl, by rw [hb.cell (p := ⟨b, off + i * 5 + 3, none⟩) h2]; exact d1, PIn.keep hb k _ _ d2⟩
theorem PIn.slice {w : World} {B k : Nat} {l : List Vl} {v : Value} (h : PIn w B k l v) : ∃ a c, v = .slice a l.length c := by
  cases k with
  | zero => obtain ⟨rfl, a, c, h⟩ := h; exact ⟨a, c, h⟩
  | succ k =>
    rcases h with ⟨rfl, a, c, h⟩ | ⟨b, off, c, h, _⟩
    · exact ⟨a, c, h⟩
    · exact ⟨_, c, h⟩
theorem PIn.at {w : World} {B k : Nat} {l : List Vl} {v : Value} (h : PIn w B k l v) (hne : l ≠ []) :
    ∃ b off c m, v = .slice (some ⟨b, off, none⟩) l.length c ∧ b < B ∧ Plain w ⟨b, off, none⟩ ∧ l.length * 80 ≤ 140737488351232 ∧ ∀ (i : Nat) (h : i < l.length), ∃ vl, w.cell? ⟨b, off + i * 5 + 3, none⟩ = some vl ∧ PIn w B m l[i].list vl := by
  cases k with
  | zero => exact absurd h.1 hne
  | succ k =>
    rcases h with ⟨h, _⟩ | ⟨b, off, c, h1, h2, h3, h4, h5⟩
    · exact absurd h hne
    · exact ⟨b, off, c, k, h1, h2, h3, h4, h5⟩

/-- One place has one depth. -/
theorem PIn.dep {dep : Vl → Nat} (hd : IsDep dep) {w : World} {B : Nat} : ∀ (k k' : Nat) (l l' : List Vl) (a : Option Addr) (n c c' : Nat), PIn w B k l (.slice a n c) → PIn w B k' l' (.slice a n c') → maxL dep l = maxL dep l'
  | k, k', l, l', a, n, c, c', h, h' => by
    obtain ⟨a1, c1, e1⟩ := h.slice
    obtain ⟨a2, c2, e2⟩ := h'.slice
    simp only [Value.slice.injEq] at e1 e2
    have hlen : l.length = l'.length := by omega
    by_cases hne : l = []
    · subst hne
      have : l' = [] := List.eq_nil_of_length_eq_zero (by simpa using hlen.symm)
      subst this; rfl
    · have hne' : l' ≠ [] := fun h => hne (List.eq_nil_of_length_eq_zero (by rw [hlen, h]; rfl))
      cases k with
      | zero => exact absurd h.1 hne
      | succ k =>
      cases k' with
      | zero => exact absurd h'.1 hne'
      | succ k' =>
      rcases h with ⟨h, _⟩ | ⟨b, off, d, h1, h2, h3, h4, h5⟩
      · exact absurd h hne
      rcases h' with ⟨h', _⟩ | ⟨b', off', d', g1, g2, g3, g4, g5⟩
      · exact absurd h' hne'
      simp only [Value.slice.injEq] at h1 g1
      have hab : (⟨b, off, none⟩ : Addr) = ⟨b', off', none⟩ := by
        have := h1.1.symm.trans g1.1
        simpa using this
      simp only [Addr.mk.injEq, and_true] at hab
      obtain ⟨rfl, rfl⟩ := hab
      have hel : ∀ i (hi : i < l.length) (hi' : i < l'.length), dep l[i] = dep l'[i] := fun i hi hi' => by
        obtain ⟨vl, p1, p2⟩ := h5 i hi
        obtain ⟨vl', q1, q2⟩ := g5 i hi'
        rw [p1] at q1
        simp only [Option.some.injEq] at q1
        subst q1
        obtain ⟨a3, c3, rfl⟩ := p2.slice
        rw [hd l[i], hd l'[i], PIn.dep hd k k' _ _ _ _ _ _ p2 q2]
      have : ∀ j, j ≤ l.length → maxL dep (l.take j) = maxL dep (l'.take j) := by
        intro j
        induction j with
        | zero => intro _; simp [maxL]
        | succ j ih =>
          intro hj
          rw [maxL_snoc dep (show j < l.length by omega), maxL_snoc dep (show j < l'.length by omega), ih (by omega), hel j (by omega) (by omega)]
      have h6 := this l.length (Nat.le_refl _)
      rw [List.take_length] at h6
      rw [h6, hlen, List.take_length]

end Go.Proofs.Ytdaohfeajicamaa

namespace Go.Proofs.Ytdaohfeajicamaa
open Go.RowKit
set_option linter.unusedVariables false
set_option linter.unusedSimpArgs false

/-- A list of the path: up to where it is walked through, how deep the deepest was. -/
structure Fr where
  l : List Vl
  v : Value
  pos : Nat
  deep : Nat

def frCells (f : Fr) : List Value := [f.v, .int .i64 (f.pos : Int), .int .i64 (f.deep : Int)]

/-- Each is within the one below it. -/
def Chain (dep : Vl → Nat) : Fr → List Fr → Prop
  | _, [] => True
  | f, g :: r => (∃ (h : g.pos - 1 < g.l.length), 1 ≤ g.pos ∧ f.l = g.l[g.pos - 1].list) ∧ g.deep = maxL dep (g.l.take (g.pos - 1)) ∧ Chain dep g r
def bot : Fr → List Fr → Fr
  | f, [] => f
  | _, g :: r => bot g r

theorem Chain.less {dep : Vl → Nat} (hd : IsDep dep) {f g : Fr} {r : List Fr} (h : Chain dep f (g :: r)) : maxL dep f.l + 1 ≤ maxL dep g.l := by
  obtain ⟨⟨h1, _, h2⟩, _⟩ := h
  have h3 := maxL_mem (d := dep) (List.getElem_mem h1)
  rw [hd, ← h2] at h3
  exact h3
theorem Chain.mem {dep : Vl → Nat} (hd : IsDep dep) : ∀ {r : List Fr} {f : Fr}, Chain dep f r → ∀ h ∈ f :: r, maxL dep f.l ≤ maxL dep h.l
  | [], f, _, h, hm => by simp at hm; rw [hm]; exact Nat.le_refl _
  | g :: r, f, hc, h, hm => by
    rcases List.mem_cons.1 hm with rfl | hm
    · exact Nat.le_refl _
    · have h1 := hc.less hd
      have h2 := Chain.mem hd hc.2.2 h hm
      omega
theorem Chain.count {dep : Vl → Nat} (hd : IsDep dep) : ∀ {r : List Fr} {f : Fr}, Chain dep f r → maxL dep f.l + r.length ≤ maxL dep (bot f r).l
  | [], f, _ => by simp [bot]
  | g :: r, f, hc => by
    have h1 := hc.less hd
    have h2 := Chain.count hd hc.2.2
    simp only [bot, List.length_cons]
    omega

structure St (dep : Vl → Nat) (t : Vl) (W : World) (B : Nat) (f : Fr) (r : List Fr) (km : List (Addr × Nat × Int)) : Prop where
  pos : f.pos ≤ f.l.length
  deep : f.deep = maxL dep (f.l.take f.pos)
  chain : Chain dep f r
  bot : (bot f r).l = [t]
  frames : ∀ h, h ∈ f :: r → h.l ≠ [] ∧ ∃ k, PIn W B k h.l h.v
  plain : ∀ e ∈ km, e.1.block < B ∧ Plain W e.1
  known : ∀ a n, knownK km a n ≠ 0 → (∃ c k l, PIn W B k l (.slice (some a) n c) ∧ l ≠ [] ∧ knownK km a n = (maxL dep l : Int)) ∨ (knownK km a n = -1 ∧ ∃ h ∈ (f :: r).dropLast, ∃ c, h.v = .slice (some a) n c)

theorem St.keep {dep : Vl → Nat} {t : Vl} {W W' : World} {B : Nat} {f : Fr} {r : List Fr} {km : List (Addr × Nat × Int)} (h : St dep t W B f r km) (hb : Below B W W') : St dep t W' B f r km := by
  refine ⟨h.pos, h.deep, h.chain, h.bot, fun x hx => ?_, fun e he => ⟨(h.plain e he).1, (h.plain e he).2.below hb (h.plain e he).1⟩, fun a n hk => ?_⟩
  · obtain ⟨h1, k, h2⟩ := h.frames x hx
    exact ⟨h1, k, PIn.keep hb k _ _ h2⟩
  · rcases h.known a n hk with ⟨c, k, l, h1, h2, h3⟩ | h1
    · exact Or.inl ⟨c, k, l, PIn.keep hb k _ _ h1, h2, h3⟩
    · exact Or.inr h1

/-- The top is another one of the same list. -/
theorem St.top {dep : Vl → Nat} {t : Vl} {W : World} {B : Nat} {f f' : Fr} {r : List Fr} {km : List (Addr × Nat × Int)} (h : St dep t W B f r km) (hl : f'.l = f.l) (hv : f'.v = f.v) (hp : f'.pos ≤ f'.l.length) (hd : f'.deep = maxL dep (f'.l.take f'.pos)) : St dep t W B f' r km := by
  refine ⟨hp, hd, ?_, ?_, fun x hx => ?_, h.plain, fun a n hk => ?_⟩
  · cases r with
    | nil => trivial
    | cons g r =>
      obtain ⟨⟨h1, h2, h3⟩, h4⟩ := h.chain
      exact ⟨⟨h1, h2, hl.trans h3⟩, h4⟩
  · cases r with
    | nil => exact hl.trans h.bot
    | cons g r => exact h.bot
  · rcases List.mem_cons.1 hx with rfl | hx
    · rw [hl, hv]; exact h.frames f List.mem_cons_self
    · exact h.frames x (List.mem_cons_of_mem _ hx)
  · rcases h.known a n hk with h1 | ⟨h1, x, hx, c, hc⟩
    · exact Or.inl h1
    · refine Or.inr ⟨h1, ?_⟩
      cases r with
      | nil => simp at hx
      | cons g r =>
        rw [List.dropLast_cons_cons] at hx ⊢
        rcases List.mem_cons.1 hx with rfl | hx
        · exact ⟨f', List.mem_cons_self, c, by rw [hv]; exact hc⟩
        · exact ⟨x, List.mem_cons_of_mem _ hx, c, hc⟩

/-- A list that is to be entered is not on the path; if it is known it is as deep as is known. -/
theorem St.within {dep : Vl → Nat} (hd : IsDep dep) {t : Vl} {W : World} {B : Nat} {f : Fr} {r : List Fr} {km : List (Addr × Nat × Int)} (h : St dep t W B f r km) (hp : f.pos < f.l.length) {k c : Nat} {a : Addr} (hw : PIn W B k f.l[f.pos].list (.slice (some a) f.l[f.pos].list.length c)) (hne : f.l[f.pos].list ≠ [])
    (hk : knownK km a f.l[f.pos].list.length ≠ 0) : knownK km a f.l[f.pos].list.length = (maxL dep f.l[f.pos].list : Int) := by
  rcases h.known a _ hk with ⟨c', k', l, h1, h2, h3⟩ | ⟨h1, x, hx, c', hc⟩
  · rw [h3, PIn.dep hd _ _ _ _ _ _ _ _ h1 hw]
  · exfalso
    have hx' : x ∈ f :: r := (List.dropLast_sublist _).mem hx
    obtain ⟨_, k', h4⟩ := h.frames x hx'
    rw [hc] at h4
    have h5 := PIn.dep hd _ _ _ _ _ _ _ _ h4 hw
    have h6 := h.chain.mem hd x hx'
    have h7 := maxL_mem (d := dep) (List.getElem_mem hp)
    rw [hd] at h7
    omega

/-- What is within the next of the top has been found. -/
theorem St.found {dep : Vl → Nat} (hd : IsDep dep) {t : Vl} {W : World} {B : Nat} {f : Fr} {r : List Fr} {km : List (Addr × Nat × Int)} (h : St dep t W B f r km) (hp : f.pos < f.l.length) : St dep t W B ⟨f.l, f.v, f.pos + 1, max f.deep (maxL dep f.l[f.pos].list + 1)⟩ r km := by
  refine h.top rfl rfl hp ?_
  show max f.deep _ = maxL dep (f.l.take (f.pos + 1))
  rw [maxL_snoc dep hp, ← h.deep, hd f.l[f.pos]]

/-- It is entered. -/
theorem St.push {dep : Vl → Nat} {t : Vl} {W : World} {B : Nat} {f : Fr} {r : List Fr} {km : List (Addr × Nat × Int)} (h : St dep t W B f r km) (hp : f.pos < f.l.length) {k c : Nat} {a : Addr} (hw : PIn W B k f.l[f.pos].list (.slice (some a) f.l[f.pos].list.length c)) (hne : f.l[f.pos].list ≠ []) (hab : a.block < B) (ha : Plain W a) :
    St dep t W B ⟨f.l[f.pos].list, .slice (some a) f.l[f.pos].list.length c, 0, 0⟩ (⟨f.l, f.v, f.pos + 1, f.deep⟩ :: r) (updK km a f.l[f.pos].list.length (-1)) := by
  refine ⟨Nat.zero_le _, by simp [maxL], ⟨⟨by show f.pos + 1 - 1 < f.l.length; omega, by show 1 ≤ f.pos + 1; omega, rfl⟩, h.deep, ?_⟩, ?_, fun x hx => ?_, updK_mem (P := fun a => a.block < B ∧ Plain W a) ⟨hab, ha⟩ h.plain, fun b n hk => ?_⟩
  · cases r with
    | nil => trivial
    | cons g r => exact h.chain
  · cases r with
    | nil => exact h.bot
    | cons g r => exact h.bot
  · rcases List.mem_cons.1 hx with rfl | hx
    · exact ⟨hne, k, hw⟩
    · rcases List.mem_cons.1 hx with rfl | hx
      · exact h.frames f List.mem_cons_self
      · exact h.frames x (List.mem_cons_of_mem _ hx)
  · rw [knownK_upd] at hk ⊢
    rw [List.dropLast_cons_cons]
    by_cases he : b = a ∧ n = f.l[f.pos].list.length
    · rw [if_pos he]
      refine Or.inr ⟨rfl, _, List.mem_cons_self, c, ?_⟩
      rw [he.1, he.2]
    · rw [if_neg he] at hk ⊢
      rcases h.known b n hk with h1 | ⟨h1, x, hx, c', hc⟩
      · exact Or.inl h1
      · refine Or.inr ⟨h1, ?_⟩
        cases r with
        | nil => simp at hx
        | cons g r =>
          rw [List.dropLast_cons_cons] at hx ⊢
          rcases List.mem_cons.1 hx with rfl | hx
          · exact ⟨_, List.mem_cons_of_mem _ List.mem_cons_self, c', hc⟩
          · exact ⟨x, List.mem_cons_of_mem _ (List.mem_cons_of_mem _ hx), c', hc⟩

/-- The top has been walked through, and is left. -/
theorem St.pop {dep : Vl → Nat} (hd : IsDep dep) {t : Vl} {W : World} {B : Nat} {f g : Fr} {r : List Fr} {km : List (Addr × Nat × Int)} (h : St dep t W B f (g :: r) km) (hp : f.pos = f.l.length) {c : Nat} {a : Addr} (hv : f.v = .slice (some a) f.l.length c) (hab : a.block < B) (ha : Plain W a) :
    St dep t W B ⟨g.l, g.v, g.pos, max g.deep (f.deep + 1)⟩ r (updK km a f.l.length (f.deep : Int)) := by
  obtain ⟨⟨h1, h2, h3⟩, h4, h5⟩ := h.chain
  have hfd : f.deep = maxL dep f.l := by rw [h.deep, hp, List.take_length]
  refine ⟨by show g.pos ≤ g.l.length; omega, ?_, ?_, ?_, fun x hx => ?_, updK_mem (P := fun a => a.block < B ∧ Plain W a) ⟨hab, ha⟩ h.plain, fun b n hk => ?_⟩
  · show max g.deep (f.deep + 1) = maxL dep (g.l.take g.pos)
    have h6 : g.pos = g.pos - 1 + 1 := by omega
    rw [h6, maxL_snoc dep h1, ← h4, hd, ← h3, hfd]
  · cases r with
    | nil => trivial
    | cons g' r => exact h5
  · cases r with
    | nil => exact h.bot
    | cons g' r => exact h.bot
  · rcases List.mem_cons.1 hx with rfl | hx
    · exact h.frames g (List.mem_cons_of_mem _ List.mem_cons_self)
    · exact h.frames x (List.mem_cons_of_mem _ (List.mem_cons_of_mem _ hx))
  · rw [knownK_upd] at hk ⊢
    by_cases he : b = a ∧ n = f.l.length
    · rw [if_pos he]
      obtain ⟨hne, k, hP⟩ := h.frames f List.mem_cons_self
      rw [hv] at hP
      exact Or.inl ⟨c, k, f.l, by rw [he.1, he.2]; exact hP, hne, by rw [hfd]⟩
    · rw [if_neg he] at hk ⊢
      rcases h.known b n hk with h6 | ⟨h6, x, hx, c', hc⟩
      · exact Or.inl h6
      · refine Or.inr ⟨h6, ?_⟩
        rw [List.dropLast_cons_cons] at hx
        rcases List.mem_cons.1 hx with rfl | hx
        · exfalso
          rw [hv] at hc
          simp only [Value.slice.injEq, Option.some.injEq] at hc
          exact he ⟨hc.1.symm, hc.2.1.symm⟩
        · cases r with
          | nil => simp at hx
          | cons g' r =>
            rw [List.dropLast_cons_cons] at hx ⊢
            rcases List.mem_cons.1 hx with rfl | hx
            · exact ⟨_, List.mem_cons_self, c', hc⟩
            · exact ⟨x, List.mem_cons_of_mem _ hx, c', hc⟩

end Go.Proofs.Ytdaohfeajicamaa

namespace Go.Proofs.Ytdaohfeajicamaa
open Go.RowKit
set_option linter.unusedVariables false
set_option linter.unusedSimpArgs false

def flat (fs : List Fr) : List Value := fs.flatMap frCells
theorem flat_len (fs : List Fr) : (flat fs).length = fs.length * 3 := by
  induction fs with
  | nil => rfl
  | cons f r ih => simp only [flat, List.flatMap_cons, List.length_append, List.length_cons] at ih ⊢; rw [ih]; simp [frCells]; omega
theorem flat_snoc (fs : List Fr) (f : Fr) : flat (fs ++ [f]) = flat fs ++ frCells f := by simp [flat]
theorem flat_at (fs : List Fr) (f : Fr) (q : Nat) : (flat (fs ++ [f]))[fs.length * 3 + q]? = (frCells f)[q]? := by
  rw [flat_snoc, List.getElem?_append_right (by rw [flat_len]; omega), flat_len]
  congr 1; omega
theorem flat_set (fs : List Fr) (f : Fr) (q : Nat) (u : Value) : (flat (fs ++ [f])).set (fs.length * 3 + q) u = flat fs ++ (frCells f).set q u := by
  rw [flat_snoc, List.set_append_right _ _ (by rw [flat_len]; omega), flat_len]
  congr 2; omega

/-- The path, bottom first, and what is known, in the box bD. -/
structure DMem (W : World) (B bD g cap r : Nat) (fs : List Fr) (km : List (Addr × Nat × Int)) : Prop where
  box : Owns W bD #[.func (.func 50) #[] #[], .slice (some ⟨g, 0, none⟩) fs.length cap, .map (some r)] 104
  row : W.ownsRow B 100 3 (.slice (some ⟨g, 0, none⟩) fs.length cap) fs.length (flat fs)
  map : MapIs W r km
  hD : B ≤ bD
  hr : B ≤ r
  hB : B ≤ W.heap.size
  ne : g ≠ bD

theorem Owns.sameD {w w' : World} {b : Nat} {c : Array Value} {e : TypeId} (h : Owns w b c e) (hb : w'.heap[b]? = w.heap[b]?) : Owns w' b c e := by
  unfold Owns at h ⊢; rw [hb]; exact h
theorem MapIs.same {w w' : World} {r : Nat} {km : List (Addr × Nat × Int)} (h : MapIs w r km) (hs : w'.heap[r]? = w.heap[r]?) : MapIs w' r km := by
  obtain ⟨es, c, h1, h2⟩ := h
  exact ⟨es, c, hs.trans h1, h2⟩
theorem MapIs.ne {w : World} {r b : Nat} {km : List (Addr × Nat × Int)} {c : Array Value} {e : TypeId} (h : MapIs w r km) (ho : Owns w b c e) : b ≠ r := by
  intro he
  subst he
  obtain ⟨es, cl, h1, _⟩ := h
  unfold Owns at ho
  rw [ho] at h1
  simp at h1

theorem DMem.gB {W : World} {B bD g cap r : Nat} {fs : List Fr} {km : List (Addr × Nat × Int)} (h : DMem W B bD g cap r fs km) : B ≤ g ∧ g < W.heap.size := h.row.lt g rfl
theorem DMem.rne {W : World} {B bD g cap r : Nat} {fs : List Fr} {km : List (Addr × Nat × Int)} (h : DMem W B bD g cap r fs km) (hn : 0 < fs.length) : g ≠ r := by
  rcases h.row.2 with ⟨h1, _⟩ | ⟨g', cap', cur, h1, h2, h3, _⟩
  · simp at h1
  · simp only [Value.slice.injEq, Option.some.injEq, Addr.mk.injEq] at h1
    obtain ⟨⟨rfl, _⟩, _⟩ := h1
    exact h.map.ne (b := g) h3

/-- The top's cells are others. -/
theorem DMem.topSet {W : World} {B bD g cap r : Nat} {fs : List Fr} {f f' : Fr} {km : List (Addr × Nat × Int)} (h : DMem W B bD g cap r (fs ++ [f]) km) (q : Nat) (u : Value) (hf : frCells f' = (frCells f).set q u) :
    DMem (W.setCell ⟨g, fs.length * 3 + q, none⟩ u) B bD g cap r (fs ++ [f']) km := by
  have hl : (fs ++ [f']).length = (fs ++ [f]).length := by simp
  refine ⟨?_, ?_, h.map.same (Below.heap_setCell _ _ _ _ (h.rne (by simp)).symm), h.hD, h.hr, by simpa [World.setCell] using h.hB, h.ne⟩
  · rw [hl]; exact h.box.other h.ne.symm _ _
  · rw [hl]
    have := (h.row.stored (fs.length * 3 + q) u).1
    rw [flat_set, ← hf] at this
    rw [flat_snoc]
    exact this

theorem DMem.draws {W : World} {B bD g cap r : Nat} {fs : List Fr} {km : List (Addr × Nat × Int)} (h : DMem W B bD g cap r fs km) (n : Nat) : DMem (W.drewN n) B bD g cap r fs km := ⟨h.box, h.row, h.map, h.hD, h.hr, h.hB, h.ne⟩
theorem Below.draws {B : Nat} {a w : World} (h : Below B a w) (n : Nat) : Below B a (w.drewN n) := ⟨h.os, h.tape, h.output, h.size, h.block⟩
theorem DMem.topDeep {W : World} {B bD g cap r : Nat} {fs : List Fr} {f : Fr} {km : List (Addr × Nat × Int)} (h : DMem W B bD g cap r (fs ++ [f]) km) {x : Int} {n : Nat} (hx : x = (n : Int)) :
    DMem (W.setCell ⟨g, fs.length * 3 + 2, none⟩ (.int .i64 x)) B bD g cap r (fs ++ [⟨f.l, f.v, f.pos, n⟩]) km := by
  subst hx
  exact h.topSet 2 _ rfl
theorem DMem.topPos {W : World} {B bD g cap r : Nat} {fs : List Fr} {f : Fr} {km : List (Addr × Nat × Int)} (h : DMem W B bD g cap r (fs ++ [f]) km) {x : Int} {n : Nat} (hx : x = (n : Int)) :
    DMem (W.setCell ⟨g, fs.length * 3 + 1, none⟩ (.int .i64 x)) B bD g cap r (fs ++ [⟨f.l, f.v, n, f.deep⟩]) km := by
  subst hx
  exact h.topSet 1 _ rfl

theorem ret_intJ {k : IntKind} {a b : Int} (h : a = b) : Ending.returned (.int k a) = .returned (.int k b) := by rw [h]
set_option maxHeartbeats 400000 in
theorem join_any (a b : Nat) (w : World) (ha : a ≤ 1000000000) (hb : b ≤ 1000000000) : Calls Try.prog 50 #[.int .i64 (a : Int), .int .i64 (b : Int)] w fun e w' => e = .returned (.int .i64 ((max a (b + 1) : Nat) : Int)) ∧ w' = w := by
  have hai : (a : Int) ≤ 1000000000 := by omega
  have hbi : (b : Int) ≤ 1000000000 := by omega
  go_enter Try.func50, Try.ntmps50
  go_wp2_with fail
  all_goals
    go_ret
    exact ⟨ret_intJ (by omega), rfl⟩

set_option maxHeartbeats 1000000 in
theorem found_any (W : World) (B bD g cap r : Nat) (fs : List Fr) (f : Fr) (km : List (Addr × Nat × Int)) (d : Nat) (h : DMem W B bD g cap r (fs ++ [f]) km) (hfs : fs.length ≤ 1000000000) (hd : d ≤ 1000000000) (hf : f.deep ≤ 1000000000) :
    Calls Try.prog 92 #[.pointer (some ⟨bD, 0, none⟩), .int .i64 (d : Int)] W fun e W' => e = .returned (.tuple #[]) ∧ DMem W' B bD g cap r (fs ++ [⟨f.l, f.v, f.pos, max f.deep (d + 1)⟩]) km ∧ Below B W W' := by
  have b0 : W.cell? ⟨bD, 1, none⟩ = some (.slice (some ⟨g, 0, none⟩) (fs.length + 1) cap) := by rw [h.box.cell]; simp
  have c2 : W.cell? ⟨g, fs.length * 3 + 2, none⟩ = some (.int .i64 (f.deep : Int)) := by
    have h1 := h.row.cellAt (fs.length * 3 + 2) (by simp; omega)
    rw [h1, flat_at]; rfl
  have z2 : W.frozen? ⟨g, fs.length * 3 + 2, none⟩ = false := h.row.frozenAt _
  have hn0 : (0 : Int) ≤ (fs.length : Int) := by omega
  have hn1 : (fs.length : Int) < ((fs.length + 1 : Nat) : Int) := by omega
  have hn2 : (fs.length : Int) ≤ 1000000000 := by omega
  have hdi : (d : Int) ≤ 1000000000 := by omega
  have hfi : (f.deep : Int) ≤ 1000000000 := by omega
  have HM : Hid (DMem W B bD g cap r (fs ++ [f]) km) := h
  have b1 : W.cell? ⟨bD, 0, none⟩ = some (.func (.func 50) #[] #[]) := by rw [h.box.cell]; simp
  have HJ : Hid (∀ W', Calls Try.prog 50 #[.int .i64 (f.deep : Int), .int .i64 (d : Int)] W' fun e w' => e = .returned (.int .i64 ((max f.deep (d + 1) : Nat) : Int)) ∧ W' = w') := fun W' => (join_any _ _ _ hf hd).mono (by rintro e w' ⟨h1, h2⟩; exact ⟨h1, h2.symm⟩)
  have hbl : bD < W.heap.size := h.box.lt
  have hgl : g < W.heap.size := h.gB.2
  have hgd : g ≠ bD := h.ne
  have hdg : bD ≠ g := h.ne.symm
  clear h
  go_enter Try.func92, Try.ntmps92
  go_wp2_with fail
  go_quiet (fail)
  go_wp2_with fail
  obtain ⟨W1, hW1⟩ : ∃ W1, W1 = W.drewN nq := ⟨_, rfl⟩
  rw [← hW1]
  have HM1 : Hid (DMem W1 B bD g cap r (fs ++ [f]) km) := by rw [hW1]; exact HM.out.draws nq
  have HB1 : Hid (Below B W W1) := by rw [hW1]; exact Below.draws (Below.refl _ _) nq
  have y0 : W1.cell? ⟨bD, 0, none⟩ = some (.func (.func 50) #[] #[]) := by rw [hW1]; exact b1
  have y2 : W1.cell? ⟨g, fs.length * 3 + 2, none⟩ = some (.int .i64 (f.deep : Int)) := by rw [hW1]; exact c2
  have yf : W1.frozen? ⟨g, fs.length * 3 + 2, none⟩ = false := by rw [hW1]; exact z2
  clear hW1 b0 b1 c2 z2 HM
  go_region_with (go_at_call 50; refine (HJ.out _).mono ?_; rintro e w1 ⟨rfl, rfl⟩)
  all_goals
    go_wp2_with fail
    refine bodyPost_end (v := .tuple #[]) (by simp [results, Try.results92, go_sem]; try rfl) rfl ?_
    exact ⟨rfl, (HM1.out.draws _).topDeep rfl, (Below.draws HB1.out _).setCell HM1.out.gB.1 _⟩

end Go.Proofs.Ytdaohfeajicamaa

namespace Go.Proofs.Ytdaohfeajicamaa
open Go.RowKit
set_option linter.unusedVariables false
set_option linter.unusedSimpArgs false

set_option maxHeartbeats 400000 in
theorem placeOf_any (b off n c : Nat) (W : World) (h1 : 1 ≤ n) (h2 : n ≤ 140737488351232) :
    Calls Try.prog 93 #[.slice (some ⟨b, off, none⟩) n c] W fun e W' => e = .returned (.agg #[.pointer (some ⟨b, off, none⟩), .int .i64 (n : Int)]) ∧ Below W.heap.size W W' := by
  have hn : (0 : Int) < (n : Int) := by omega
  have hn2 : (n : Int) ≤ 140737488351232 := by omega
  go_enter Try.func93, Try.ntmps93
  go_wp2_with fail
  exact bodyPost_ret (v := .agg #[.pointer (some ⟨b, off, none⟩), .int .i64 (n : Int)]) (by simp [results, Try.results93, go_sem]; try rfl) rfl ⟨rfl, (Below.refl _ _).alloc (Nat.le_refl _) _⟩

theorem DMem.below {W W' : World} {B bD g cap r : Nat} {fs : List Fr} {km : List (Addr × Nat × Int)} (h : DMem W B bD g cap r fs km) (hb : Below W.heap.size W W') : DMem W' B bD g cap r fs km := by
  have hrow : W.grownBy W' none := ⟨hb.os, hb.tape, hb.output, hb.size, fun q hq _ => hb.block q hq⟩
  have hrl : r < W.heap.size := by
    obtain ⟨es, cl, h1, _⟩ := h.map
    by_cases hx : r < W.heap.size
    · exact hx
    · rw [Array.getElem?_eq_none (by omega)] at h1; simp at h1
  exact ⟨h.box.below hb h.box.lt, h.row.kept (row := none) hrow (Or.inr (by simp [Value.ownBlock])), h.map.same (hb.block r hrl), h.hD, h.hr, Nat.le_trans h.hB hb.size, h.ne⟩

/-- What is known is updated. -/
theorem DMem.update {W : World} {B bD g cap r : Nat} {fs : List Fr} {km : List (Addr × Nat × Int)} (h : DMem W B bD g cap r fs km) (hn : 0 < fs.length) (a : Addr) (n : Nat) (v : Int) (ha : Plain W a) (hk : ∀ e ∈ km, Plain W e.1) :
    ∃ W3 : World, (Instr.mapUpdate 102 (.map (some r)) (.agg #[.pointer (some a), .int .i64 (n : Int)]) (.int .i64 v)).run Try.prog W = .ok () W3 ∧ DMem W3 B bD g cap r fs (updK km a n v) ∧ Below B W W3 ∧ W3.heap.size = W.heap.size ∧ ∀ q, q ≠ r → W3.heap[q]? = W.heap[q]? := by
  obtain ⟨o, hup, hmp⟩ := run_update_place (w := W) (n := n) (a := a) v h.map ha hk
  have h3 : ∀ q, q ≠ r → ({ W with heap := W.heap.setIfInBounds r o } : World).heap[q]? = W.heap[q]? := fun q hq => by
    show (W.heap.setIfInBounds r o)[q]? = _
    rw [Array.getElem?_setIfInBounds_ne (Ne.symm hq)]
  have h3s : ({ W with heap := W.heap.setIfInBounds r o } : World).heap.size = W.heap.size := by
    show (W.heap.setIfInBounds r o).size = _
    simp
  refine ⟨{ W with heap := W.heap.setIfInBounds r o }, hup, ⟨h.box.sameD (h3 _ (h.map.ne h.box)), ?_, hmp, h.hD, h.hr, by rw [h3s]; exact h.hB, h.ne⟩, ⟨rfl, rfl, rfl, by rw [h3s]; exact Nat.le_refl _, fun q hq => h3 q (by have := h.hr; omega)⟩, h3s, h3⟩
  obtain ⟨q1, q2⟩ := h.row
  refine ⟨q1, ?_⟩
  have hgr := h.rne hn
  rcases q2 with q2 | ⟨g', cap', cur, q2, q3, q4, q5⟩
  · exact Or.inl q2
  · simp only [Value.slice.injEq, Option.some.injEq, Addr.mk.injEq] at q2
    obtain ⟨⟨rfl, _⟩, _, rfl⟩ := q2
    exact Or.inr ⟨g, cap, cur, rfl, q3, by rw [h3 g hgr]; exact q4, q5⟩

set_option maxHeartbeats 1000000 in
theorem enter_empty (W : World) (B bD g cap r : Nat) (fs : List Fr) (f : Fr) (km : List (Addr × Nat × Int)) (a : Option Addr) (c : Nat) (h : DMem W B bD g cap r (fs ++ [f]) km) (hfs : fs.length ≤ 1000000000) (hf : f.deep ≤ 1000000000) :
    Calls Try.prog 72 #[.pointer (some ⟨bD, 0, none⟩), .slice a 0 c] W fun e W' => e = .returned (.bool true) ∧ DMem W' B bD g cap r (fs ++ [⟨f.l, f.v, f.pos, max f.deep (0 + 1)⟩]) km ∧ Below B W W' := by
  have HM : Hid (DMem W B bD g cap r (fs ++ [f]) km) := h
  clear h
  go_enter Try.func72, Try.ntmps72
  go_wp2_with fail
  refine (found_any W B bD g cap r fs f km 0 HM.out hfs (by omega) hf).mono ?_
  rintro e W1 ⟨rfl, hM, hB⟩
  have HM1 : Hid _ := hM
  have HB1 : Hid _ := hB
  clear hM hB
  go_wp2_with fail
  go_ret
  exact ⟨rfl, HM1.out, HB1.out⟩

set_option maxHeartbeats 1000000 in
theorem enter_known (W : World) (B bD g cap r : Nat) (fs : List Fr) (f : Fr) (km : List (Addr × Nat × Int)) (b off n c d : Nat) (h : DMem W B bD g cap r (fs ++ [f]) km) (hfs : fs.length ≤ 1000000000) (hf : f.deep ≤ 1000000000) (h1 : 1 ≤ n) (h2 : n ≤ 140737488351232)
    (hp : Plain W ⟨b, off, none⟩) (hb : b < B) (hk : ∀ e ∈ km, e.1.block < B ∧ Plain W e.1) (hd : knownK km ⟨b, off, none⟩ n = (d : Int)) (hd1 : 1 ≤ d) (hd2 : d ≤ 1000000000) :
    Calls Try.prog 72 #[.pointer (some ⟨bD, 0, none⟩), .slice (some ⟨b, off, none⟩) n c] W fun e W' => e = .returned (.bool true) ∧ DMem W' B bD g cap r (fs ++ [⟨f.l, f.v, f.pos, max f.deep (d + 1)⟩]) km ∧ Below B W W' := by
  have hn : ((n : Int) == 0) = false := by simp; omega
  have HM : Hid (DMem W B bD g cap r (fs ++ [f]) km) := h
  have HP : Hid (∀ W', Below B W W' → Plain W' ⟨b, off, none⟩ ∧ ∀ e ∈ km, Plain W' e.1) := fun W' hw => ⟨hp.below hw hb, fun e he => (hk e he).2.below hw (hk e he).1⟩
  have HD : Hid (knownK km ⟨b, off, none⟩ n = (d : Int)) := hd
  clear h hp hk hd
  go_enter Try.func72, Try.ntmps72
  go_wp2_with fail
  refine (placeOf_any b off n c _ h1 h2).mono ?_
  rintro e W1 ⟨rfl, hb1⟩
  have hM1 := HM.out.below hb1
  have hB1 : Below B W W1 := hb1.mono HM.out.hB
  obtain ⟨W2, hW2⟩ : ∃ W2, W2 = (W1.alloc (Obj.cells #[.pointer (some ⟨b, off, none⟩), .int .i64 (n : Int)] 124)) := ⟨_, rfl⟩
  have hb2 : Below W1.heap.size W1 W2 := by rw [hW2]; exact (Below.refl _ _).alloc (Nat.le_refl _) _
  have hM2 := hM1.below hb2
  have hB2 : Below B W W2 := hB1.trans (hb2.mono hM1.hB)
  have hlk := run_lookup_place (n := n) hM2.map (HP.out _ hB2).1 (HP.out _ hB2).2
  rw [HD.out] at hlk
  have hlk' : (Instr.lookup 102 (.map (some r)) (.agg #[.pointer (some ⟨b, off, none⟩), .int .i64 (n : Int)]) false).run Try.prog W2.drew = .ok (.int .i64 (d : Int)) W2.drew := by
    have := run_lookup_place (w := W2.drew) (n := n) (a := ⟨b, off, none⟩) hM2.map (HP.out _ hB2).1 (HP.out _ hB2).2
    rw [HD.out] at this
    exact this
  have b1 : W2.cell? ⟨bD, 2, none⟩ = some (.map (some r)) := by rw [hM2.box.cell]; rfl
  have k0 : W2.cell? ⟨W1.heap.size, 0, none⟩ = some (.pointer (some ⟨b, off, none⟩)) := by rw [hW2]; simp
  have k1 : W2.cell? ⟨W1.heap.size, 1, none⟩ = some (.int .i64 (n : Int)) := by rw [hW2]; simp
  have hd0 : ((d : Int) == 0) = false := by simp; omega
  have hdm : ((d : Int) == -1) = false := by simp <;> omega
  have HM2 : Hid (DMem W2 B bD g cap r (fs ++ [f]) km) := hM2
  have HB2 : Hid (Below B W W2) := hB2
  clear hM1 hB1 hM2 hB2 hb1 hb2 hlk HM
  go_wp2_with fail
  rw [← hW2]
  have HW2 : Hid _ := hW2
  clear hW2
  go_region
  go_wp2_with fail
  refine (found_any W2.drew B bD g cap r fs f km d (HM2.out.draws 1) hfs hd2 hf).mono ?_
  rintro e W3 ⟨rfl, hM3, hB3⟩
  have HM3 : Hid _ := hM3
  have HB3 : Hid (Below B W W3) := (Below.draws HB2.out 1).trans hB3
  clear hM3 hB3
  go_wp2_with fail
  go_ret
  exact ⟨rfl, HM3.out, HB3.out⟩

theorem info_step : ∃ i, Try.prog.info? 100 = some i ∧ i.zero = some (.agg #[.slice none 0 0, .int .i64 0, .int .i64 0]) ∧ i.size = 3 ∧ i.bytes = 40 := by
  have h : (Try.prog.info? 100).map (fun i => (i.zero, i.size, i.bytes)) = some (some (.agg #[.slice none 0 0, .int .i64 0, .int .i64 0]), 3, 40) := by kernel_rfl
  obtain ⟨i, h1, h2⟩ := Option.map_eq_some_iff.1 h
  simp only [Prod.mk.injEq] at h2
  exact ⟨i, h1, h2.1, h2.2.1, h2.2.2⟩

set_option maxHeartbeats 1000000 in
theorem enter_new (W : World) (B bD g cap r : Nat) (fs : List Fr) (f : Fr) (km : List (Addr × Nat × Int)) (b off n c : Nat) (l : List Vl) (h : DMem W B bD g cap r (fs ++ [f]) km) (hfs : fs.length ≤ 1000000000) (hf : f.deep ≤ 1000000000) (h1 : 1 ≤ n) (h2 : n ≤ 140737488351232)
    (hp : Plain W ⟨b, off, none⟩) (hb : b < B) (hk : ∀ e ∈ km, e.1.block < B ∧ Plain W e.1) (hd : knownK km ⟨b, off, none⟩ n = 0) :
    Calls Try.prog 72 #[.pointer (some ⟨bD, 0, none⟩), .slice (some ⟨b, off, none⟩) n c] W fun e W' => e = .returned (.bool true) ∧ (∃ g' cap', DMem W' B bD g' cap' r (fs ++ [f] ++ [⟨l, .slice (some ⟨b, off, none⟩) n c, 0, 0⟩]) (updK km ⟨b, off, none⟩ n (-1))) ∧ Below B W W' := by
  have hn : ((n : Int) == 0) = false := by simp; omega
  have HM : Hid (DMem W B bD g cap r (fs ++ [f]) km) := h
  have HP : Hid (∀ W', Below B W W' → Plain W' ⟨b, off, none⟩ ∧ ∀ e ∈ km, Plain W' e.1) := fun W' hw => ⟨hp.below hw hb, fun e he => (hk e he).2.below hw (hk e he).1⟩
  have HD : Hid (knownK km ⟨b, off, none⟩ n = 0) := hd
  clear h hp hk hd
  go_enter Try.func72, Try.ntmps72
  go_wp2_with fail
  refine (placeOf_any b off n c _ h1 h2).mono ?_
  rintro e W1 ⟨rfl, hb1⟩
  have hM1 := HM.out.below hb1
  have hB1 : Below B W W1 := hb1.mono HM.out.hB
  obtain ⟨W2, hW2⟩ : ∃ W2, W2 = (W1.alloc (Obj.cells #[.pointer (some ⟨b, off, none⟩), .int .i64 (n : Int)] 124)) := ⟨_, rfl⟩
  have hb2 : Below W1.heap.size W1 W2 := by rw [hW2]; exact (Below.refl _ _).alloc (Nat.le_refl _) _
  have hM2 := hM1.below hb2
  have hB2 : Below B W W2 := hB1.trans (hb2.mono hM1.hB)
  have hlk := run_lookup_place (n := n) hM2.map (HP.out _ hB2).1 (HP.out _ hB2).2
  rw [HD.out] at hlk
  have hlk' : (Instr.lookup 102 (.map (some r)) (.agg #[.pointer (some ⟨b, off, none⟩), .int .i64 (n : Int)]) false).run Try.prog W2.drew = .ok (.int .i64 0) W2.drew := by
    have := run_lookup_place (w := W2.drew) (n := n) (a := ⟨b, off, none⟩) hM2.map (HP.out _ hB2).1 (HP.out _ hB2).2
    rw [HD.out] at this
    exact this
  have b1 : W2.cell? ⟨bD, 2, none⟩ = some (.map (some r)) := by rw [hM2.box.cell]; rfl
  have k0 : W2.cell? ⟨W1.heap.size, 0, none⟩ = some (.pointer (some ⟨b, off, none⟩)) := by rw [hW2]; simp
  have k1 : W2.cell? ⟨W1.heap.size, 1, none⟩ = some (.int .i64 (n : Int)) := by rw [hW2]; simp
  have HM2 : Hid (DMem W2 B bD g cap r (fs ++ [f]) km) := hM2
  have HB2 : Hid (Below B W W2) := hB2
  clear hM1 hB1 hM2 hB2 hb1 hb2 hlk HM
  go_wp2_with fail
  rw [← hW2]
  have HW2 : Hid _ := hW2
  clear hW2
  obtain ⟨o, hup, hmp⟩ := run_update_place (w := W2.drew.drew) (n := n) (a := ⟨b, off, none⟩) (-1) HM2.out.map (HP.out _ HB2.out).1 (HP.out _ HB2.out).2
  obtain ⟨W3, hW3⟩ : ∃ W3 : World, W3 = { W2.drew.drew with heap := W2.drew.drew.heap.setIfInBounds r o } := ⟨_, rfl⟩
  rw [← hW3] at hup hmp
  have hup' : (Instr.mapUpdate 102 (.map (some r)) (.agg #[.pointer (some ⟨b, off, none⟩), .int .i64 (n : Int)]) (.int .i64 (-1))).run Try.prog W2.drew.drew = .ok () W3 := hup
  have h3 : ∀ q, q ≠ r → W3.heap[q]? = W2.heap[q]? := fun q hq => by
    rw [hW3]
    show (W2.heap.setIfInBounds r o)[q]? = _
    rw [Array.getElem?_setIfInBounds_ne (Ne.symm hq)]
  have h3s : W3.heap.size = W2.heap.size := by
    rw [hW3]
    show (W2.heap.setIfInBounds r o).size = _
    simp
  have hgr := HM2.out.rne (by simp)
  have hbr : bD ≠ r := HM2.out.map.ne HM2.out.box
  have HM3 : Hid (DMem W3 B bD g cap r (fs ++ [f]) (updK km ⟨b, off, none⟩ n (-1))) := by
    refine ⟨HM2.out.box.sameD (h3 _ hbr), ?_, hmp, HM2.out.hD, HM2.out.hr, by rw [h3s]; exact HM2.out.hB, HM2.out.ne⟩
    obtain ⟨q1, q2⟩ := HM2.out.row
    refine ⟨q1, ?_⟩
    rcases q2 with q2 | ⟨g', cap', cur, q2, q3, q4, q5⟩
    · exact Or.inl q2
    · simp only [Value.slice.injEq, Option.some.injEq, Addr.mk.injEq] at q2
      obtain ⟨⟨rfl, _⟩, _, rfl⟩ := q2
      exact Or.inr ⟨g, cap, cur, rfl, q3, by rw [h3 g hgr]; exact q4, q5⟩
  have HB3 : Hid (Below B W W3) := by
    refine ⟨?_, ?_, ?_, by rw [h3s]; exact HB2.out.size, fun q hq => ?_⟩
    · rw [hW3]; exact HB2.out.os
    · rw [hW3]; exact HB2.out.tape
    · rw [hW3]; exact HB2.out.output
    · rw [h3 q (by have := HM2.out.hr; omega)]; exact HB2.out.block q hq
  have c0 : W3.cell? ⟨bD, 1, none⟩ = some (.slice (some ⟨g, 0, none⟩) (fs.length + 1) cap) := by rw [HM3.out.box.cell]; simp
  have cf : W3.frozen? ⟨bD, 1, none⟩ = false := HM3.out.box.frozen 1
  obtain ⟨i0, hi0, hz0, hz1, hz2⟩ := info_step
  have hbl : bD < W3.heap.size := HM3.out.box.lt
  have HNE : Hid (¬ bD = g) := HM3.out.ne.symm
  clear hup hmp hW3 h3 HM2 HB2 h3s
  go_region
  go_wp2_with fail
  go_region
  go_wp2_with (at_builtin; refine wpList_append_lies _ rfl _ _ _ rfl B 100 i0 _ 3 40 Try.underlying101 hi0 hz0 hz1 hz2 rfl (by omega) (.slice (some ⟨g, 0, none⟩) (fs.length + 1) cap) (fs.length + 1) (flat (fs ++ [f])) rfl (by have := HM3.out.row; simp only [List.length_append, List.length_cons, List.length_nil] at this; exact this.alloc _) ⟨W3.heap.size, 0, none⟩ 1 1 [.slice (some ⟨b, off, none⟩) n c, .int .i64 0, .int .i64 0] rfl rfl (World.news_of_block (cs := #[.slice (some ⟨b, off, none⟩) n c, .int .i64 0, .int .i64 0]) (t := 100) (fr := (0, 0)) (heap_alloc_new W3 _)) (by simp [Value.oneCell']) (by omega) (by unfold maxLen; omega) (by omega) (by have := HM3.out.hB; simp; omega) (W3.heap.size + 1) (by simp) ?_; intro g' cap' W4 hown' hgrow hat hlt'; have e0 : W4.cell? ⟨bD, 1, none⟩ = some (.slice (some ⟨g, 0, none⟩) (fs.length + 1) cap) := hgrow.cell (a := ⟨bD, 1, none⟩) ((World.cell?_alloc_lt _ _ _ hbl).trans c0) (by simp [Value.ownBlock]; exact HNE.out); have e0f : W4.frozen? ⟨bD, 1, none⟩ = false := (hgrow.frozen_far ⟨bD, 1, none⟩ (by simp; omega) (by simp [Value.ownBlock]; exact HNE.out)).trans ((World.frozen?_of_block (w := W3) (Below.heap_alloc _ _ _ hbl)).trans cf))
  go_ret
  have hs4 : W3.heap.size + 1 ≤ W4.heap.size := by have := hgrow.size; simpa using this
  have hne' : g' ≠ bD := by
    rcases hat with hat | hat
    · have hgg : g = g' := by simpa [Value.ownBlock] using hat
      rw [← hgg]; exact HM3.out.ne
    · omega
  have h4 : ∀ q, q < W3.heap.size → q ≠ g → W4.heap[q]? = W3.heap[q]? := fun q hq hqg => by
    rw [hgrow.block q (by simp; omega) (by simp [Value.ownBlock]; exact hqg), Below.heap_alloc _ _ _ hq]
  have hrl : r < W3.heap.size := by
    obtain ⟨es, cl, h1, _⟩ := HM3.out.map
    by_cases hx : r < W3.heap.size
    · exact hx
    · rw [Array.getElem?_eq_none (by omega)] at h1; simp at h1
  have hrg := (HM3.out.rne (by simp)).symm
  have hrb : r ≠ bD := (HM3.out.map.ne HM3.out.box).symm
  refine ⟨rfl, ⟨g', cap', ?_, ?_, ?_, HM3.out.hD, HM3.out.hr, ?_, hne'⟩, ?_⟩
  · have hb4 : Owns W4 bD #[.func (.func 50) #[] #[], .slice (some ⟨g, 0, none⟩) (fs ++ [f]).length cap, .map (some r)] 104 := HM3.out.box.sameD (h4 bD hbl HM3.out.ne.symm)
    have := hb4.set 1 (.slice (some ⟨g', 0, none⟩) (fs.length + 1 + 1) cap')
    simpa using this
  · have hl : (fs ++ [f] ++ [(⟨l, .slice (some ⟨b, off, none⟩) n c, 0, 0⟩ : Fr)]).length = fs.length + 1 + 1 := by simp
    rw [hl, flat_snoc]
    obtain ⟨q1, q2⟩ := hown'
    refine ⟨q1, ?_⟩
    rcases q2 with ⟨q2, _⟩ | ⟨g2, cap2, cur, q2, q3, q4, q5⟩
    · simp at q2
    · simp only [Value.slice.injEq, Option.some.injEq, Addr.mk.injEq] at q2
      obtain ⟨⟨rfl, _⟩, _, rfl⟩ := q2
      exact Or.inr ⟨g', cap', cur, rfl, q3, by rw [Below.heap_setCell _ _ _ _ hne']; exact q4, q5⟩
  · exact HM3.out.map.same ((Below.heap_setCell _ _ _ _ hrb).trans (h4 r hrl hrg))
  · have := HM3.out.hB; simp [World.setCell]; omega
  · have hB4 : Below B W W4 := by
      have hgB := HM3.out.gB
      have hBs := HM3.out.hB
      refine ⟨hgrow.os.trans HB3.out.os, hgrow.tape.trans HB3.out.tape, hgrow.output.trans HB3.out.output, by have := HB3.out.size; omega, fun q hq => ?_⟩
      rw [h4 q (by omega) (by omega)]; exact HB3.out.block q hq
    exact hB4.setCell HM3.out.hD _

end Go.Proofs.Ytdaohfeajicamaa

namespace Go.Proofs.Ytdaohfeajicamaa
open Go.RowKit
set_option linter.unusedVariables false
set_option linter.unusedSimpArgs false

/-- The path without its top. -/
theorem DMem.pop {W : World} {B bD g cap r : Nat} {fs : List Fr} {f : Fr} {km : List (Addr × Nat × Int)} (h : DMem W B bD g cap r (fs ++ [f]) km) :
    DMem (W.setCell ⟨bD, 1, none⟩ (.slice (some ⟨g, 0, none⟩) fs.length cap)) B bD g cap r fs km := by
  have hrb : r ≠ bD := (h.map.ne h.box).symm
  refine ⟨?_, ?_, h.map.same (Below.heap_setCell _ _ _ _ hrb), h.hD, h.hr, by simpa [World.setCell] using h.hB, h.ne⟩
  · have := h.box.set 1 (.slice (some ⟨g, 0, none⟩) fs.length cap)
    simpa using this
  · obtain ⟨q1, q2⟩ := h.row
    refine ⟨flat_len fs, ?_⟩
    rcases q2 with ⟨q2, _⟩ | ⟨g2, cap2, cur, q2, q3, q4, q5, q6, q7, q8⟩
    · simp at q2
    · simp only [Value.slice.injEq, Option.some.injEq, Addr.mk.injEq] at q2
      obtain ⟨⟨rfl, _⟩, _, rfl⟩ := q2
      simp only [List.length_append, List.length_cons, List.length_nil] at q5 q8
      refine Or.inr ⟨g, cap, cur, rfl, q3, by rw [Below.heap_setCell _ _ _ _ h.ne]; exact q4, by omega, q6, q7, ?_⟩
      have h2 : List.take (fs.length * 3) (flat fs ++ frCells f) = flat fs := by
        rw [List.take_append_of_le_length (by rw [flat_len]; exact Nat.le_refl _), ← flat_len, List.take_length]
      rw [← h2, ← flat_snoc, ← q8, List.take_take, Nat.min_eq_left (by omega)]

set_option maxHeartbeats 2000000 in
theorem leave_any (W : World) (B bD g cap r : Nat) (fs : List Fr) (gf f : Fr) (km : List (Addr × Nat × Int)) (b off n c : Nat) (h : DMem W B bD g cap r (fs ++ [gf] ++ [f]) km) (hfs : fs.length + 1 ≤ 1000000000) (hf : f.deep ≤ 1000000000) (hgf : gf.deep ≤ 1000000000) (hp0 : f.pos ≤ 140737488351232) (hv : f.v = .slice (some ⟨b, off, none⟩) n c) (h1 : 1 ≤ n) (h2 : n ≤ 140737488351232)
    (hp : Plain W ⟨b, off, none⟩) (hb : b < B) (hk : ∀ e ∈ km, e.1.block < B ∧ Plain W e.1) :
    Calls Try.prog 73 #[.pointer (some ⟨bD, 0, none⟩)] W fun e W' => e = .returned (.tuple #[]) ∧ DMem W' B bD g cap r (fs ++ [⟨gf.l, gf.v, gf.pos, max gf.deep (f.deep + 1)⟩]) (updK km ⟨b, off, none⟩ n (f.deep : Int)) ∧ Below B W W' := by
  have b0 : W.cell? ⟨bD, 1, none⟩ = some (.slice (some ⟨g, 0, none⟩) (fs.length + 1 + 1) cap) := by rw [h.box.cell]; simp
  have b0f : W.frozen? ⟨bD, 1, none⟩ = false := h.box.frozen 1
  have hlen : (fs ++ [gf]).length = fs.length + 1 := by simp
  have c0 : W.cell? ⟨g, (fs.length + 1) * 3, none⟩ = some (.slice (some ⟨b, off, none⟩) n c) := by
    have h1 := h.row.cellAt ((fs.length + 1) * 3) (by simp <;> omega)
    have h2 := flat_at (fs ++ [gf]) f 0
    rw [hlen, Nat.add_zero] at h2
    rw [h1, h2]; show some f.v = _; rw [hv]
  have c1 : W.cell? ⟨g, (fs.length + 1) * 3 + 1, none⟩ = some (.int .i64 (f.pos : Int)) := by
    have h1 := h.row.cellAt ((fs.length + 1) * 3 + 1) (by simp <;> omega)
    have h2 := flat_at (fs ++ [gf]) f 1
    rw [hlen] at h2
    rw [h1, h2]; rfl
  have c2 : W.cell? ⟨g, (fs.length + 1) * 3 + 2, none⟩ = some (.int .i64 (f.deep : Int)) := by
    have h1 := h.row.cellAt ((fs.length + 1) * 3 + 2) (by simp <;> omega)
    have h2 := flat_at (fs ++ [gf]) f 2
    rw [hlen] at h2
    rw [h1, h2]; rfl
  have hn0 : (0 : Int) ≤ ((fs.length + 1 : Nat) : Int) := by omega
  have hn1 : ((fs.length : Int) + 1) < ((fs.length : Int) + 1 + 1) := by omega
  have hn2 : (fs.length : Int) ≤ 1000000000 := by omega
  have hfi : (f.deep : Int) ≤ 1000000000 := by omega
  have hcap : fs.length + 1 + 1 ≤ cap := by
    rcases h.row.2 with ⟨q2, _⟩ | ⟨g2, cap2, cur, q2, q3, q4, q5, _⟩
    · simp at q2
    · simp only [Value.slice.injEq] at q2
      simp at q5; omega
  have hgl := h.gB.2
  have hbl := h.box.lt
  have HM : Hid (DMem W B bD g cap r (fs ++ [gf] ++ [f]) km) := h
  have HP : Hid (∀ W', Below B W W' → Plain W' ⟨b, off, none⟩ ∧ ∀ e ∈ km, Plain W' e.1) := fun W' hw => ⟨hp.below hw hb, fun e he => (hk e he).2.below hw (hk e he).1⟩
  clear h hp hk
  go_enter Try.func73, Try.ntmps73
  go_wp2_with fail
  go_region
  obtain ⟨WA, hWA⟩ : ∃ WA, WA = W.alloc (Obj.cells #[.slice (some ⟨b, off, none⟩) n c, .int .i64 (f.pos : Int), .int .i64 (f.deep : Int)] 100) := ⟨_, rfl⟩
  rw [← hWA]
  have hbA : Below W.heap.size W WA := by rw [hWA]; exact (Below.refl _ _).alloc (Nat.le_refl _) _
  have hMA := HM.out.below hbA
  have hl0 : WA.cell? ⟨W.heap.size, 0, none⟩ = some (.slice (some ⟨b, off, none⟩) n c) := by rw [hWA]; simp
  have hl2 : WA.cell? ⟨W.heap.size, 2, none⟩ = some (.int .i64 (f.deep : Int)) := by rw [hWA]; simp
  have a0 : WA.cell? ⟨bD, 1, none⟩ = some (.slice (some ⟨g, 0, none⟩) (fs.length + 1 + 1) cap) := cell_on hbA b0
  have a0f : WA.frozen? ⟨bD, 1, none⟩ = false := hMA.box.frozen 1
  have a1 : WA.cell? ⟨bD, 2, none⟩ = some (.map (some r)) := by rw [hMA.box.cell]; rfl
  have HBA : Hid (Below B W WA) := hbA.mono HM.out.hB
  have HMA : Hid (DMem WA B bD g cap r (fs ++ [gf] ++ [f]) km) := hMA
  have nbW : bD ≠ W.heap.size := by omega
  have hwA : W.heap.size < WA.heap.size := cell_lt hl0
  clear hbA hMA hWA b0 b0f c0 c1 c2 HM
  go_wp2_with fail
  go_region
  obtain ⟨WB, hWB⟩ : ∃ WB, WB = (WA.setCell ⟨bD, 1, none⟩ (.slice (some ⟨g, 0, none⟩) (fs.length + 1) cap)).drew.drew := ⟨_, rfl⟩
  rw [← hWB]
  have hMB : DMem WB B bD g cap r (fs ++ [gf]) km := by
    have h3 := HMA.out.pop
    rw [hlen] at h3
    rw [hWB]
    exact (h3.draws 1).draws 1
  have hBB : Below B W WB := by rw [hWB]; exact ((HBA.out.setCell HMA.out.hD _).drew).drew
  have m0 : WB.cell? ⟨W.heap.size, 0, none⟩ = some (.slice (some ⟨b, off, none⟩) n c) := by
    rw [World.cell?_of_block (w := WA) (a := ⟨W.heap.size, 0, none⟩) (by rw [hWB]; exact Below.heap_setCell _ _ _ _ nbW.symm)]; exact hl0
  have m2 : WB.cell? ⟨W.heap.size, 2, none⟩ = some (.int .i64 (f.deep : Int)) := by
    rw [World.cell?_of_block (w := WA) (a := ⟨W.heap.size, 2, none⟩) (by rw [hWB]; exact Below.heap_setCell _ _ _ _ nbW.symm)]; exact hl2
  have m1 : WB.cell? ⟨bD, 2, none⟩ = some (.map (some r)) := by rw [hMB.box.cell]; rfl
  have HMB : Hid (DMem WB B bD g cap r (fs ++ [gf]) km) := hMB
  have HBB : Hid (Below B W WB) := hBB
  have HPL : Hid (Calls Try.prog 93 #[.slice (some ⟨b, off, none⟩) n c] WB.drew (fun e w1 => e = .returned (.agg #[.pointer (some ⟨b, off, none⟩), .int .i64 (n : Int)]) ∧ (w1.cell? ⟨bD, 2, none⟩ = some (.map (some r)) ∧ w1.cell? ⟨W.heap.size, 0, none⟩ = some (.slice (some ⟨b, off, none⟩) n c) ∧ w1.cell? ⟨W.heap.size, 2, none⟩ = some (.int .i64 (f.deep : Int))) ∧
      ∃ W3, (Instr.mapUpdate 102 (.map (some r)) (.agg #[.pointer (some ⟨b, off, none⟩), .int .i64 (n : Int)]) (.int .i64 (f.deep : Int))).run Try.prog w1 = .ok () W3 ∧ (W3.cell? ⟨bD, 2, none⟩ = some (.map (some r)) ∧ W3.cell? ⟨W.heap.size, 0, none⟩ = some (.slice (some ⟨b, off, none⟩) n c) ∧ W3.cell? ⟨W.heap.size, 2, none⟩ = some (.int .i64 (f.deep : Int))) ∧ Hid (DMem W3 B bD g cap r (fs ++ [gf]) (updK km ⟨b, off, none⟩ n (f.deep : Int))) ∧ Hid (Below B W W3))) := by
    refine (placeOf_any b off n c WB.drew h1 h2).mono ?_
    rintro e w1 ⟨rfl, hb1⟩
    have hb1' : Below WB.heap.size WB w1 := ((Below.refl _ WB).drew).trans hb1
    have hM1 := hMB.below hb1'
    have hB1 : Below B W w1 := hBB.trans (hb1'.mono hMB.hB)
    obtain ⟨W3, hup, hM3, hB3, hs3, h3⟩ := hM1.update (by simp) ⟨b, off, none⟩ n (f.deep : Int) (HP.out _ hB1).1 (HP.out _ hB1).2
    have k0 := cell_on hb1' m0
    have k1 := cell_on hb1' m1
    have k2 := cell_on hb1' m2
    have hWr : W.heap.size ≠ r := by
      intro he
      obtain ⟨es, cl, q1, _⟩ := hM1.map
      rw [World.cell?] at k0
      simp only [he] at k0
      simp [q1] at k0
    have hDr : bD ≠ r := hM1.map.ne hM1.box
    refine ⟨rfl, ⟨k1, k0, k2⟩, W3, hup, ⟨?_, ?_, ?_⟩, hM3, hB1.trans hB3⟩
    · rw [World.cell?_of_block (w := w1) (a := ⟨bD, 2, none⟩) (h3 _ hDr)]; exact k1
    · rw [World.cell?_of_block (w := w1) (a := ⟨W.heap.size, 0, none⟩) (h3 _ hWr)]; exact k0
    · rw [World.cell?_of_block (w := w1) (a := ⟨W.heap.size, 2, none⟩) (h3 _ hWr)]; exact k2
  clear hMB hBB hWB hl0 hl2 a0 a0f a1 HMA HBA
  go_wp2_with fail
  go_region_held3 (fun w' => w'.cell? ⟨bD, 2, none⟩ = some (.map (some r)) ∧ w'.cell? ⟨W.heap.size, 0, none⟩ = some (.slice (some ⟨b, off, none⟩) n c) ∧ w'.cell? ⟨W.heap.size, 2, none⟩ = some (.int .i64 (f.deep : Int))) (go_keep) (first | (go_at_call 93; refine (Hid.out HPL).mono ?_; rintro e w1 ⟨rfl, ⟨k1, k0, k2⟩, W3, hup, ⟨j1, j0, j2⟩, HM3, HB3⟩))
  go_wp2_with fail
  refine (found_any W3 B bD g cap r fs gf _ f.deep HM3.out (by omega) hf hgf).mono ?_
  rintro e W4 ⟨rfl, hM4, hB4⟩
  have HM4 : Hid _ := hM4
  have HB4 : Hid (Below B W W4) := HB3.out.trans hB4
  clear hM4 hB4
  go_wp2_with fail
  refine bodyPost_end (v := .tuple #[]) (by simp [results, Try.results73, go_sem]; try rfl) rfl ?_
  exact ⟨rfl, HM4.out, HB4.out⟩

end Go.Proofs.Ytdaohfeajicamaa

namespace Go.Proofs.Ytdaohfeajicamaa
open Go.RowKit
set_option linter.unusedVariables false
set_option linter.unusedSimpArgs false

/-- What is left to be done. -/
def leftF (sz : Vl → Nat) (f : Fr) : Nat := sumL sz (f.l.drop f.pos) + 1
def lefts (sz : Vl → Nat) : List Fr → Nat
  | [] => 0
  | f :: r => leftF sz f + lefts sz r
theorem left_step {sz : Vl → Nat} (hs : IsSz sz) {f : Fr} (h : f.pos < f.l.length) (d : Nat) (v : Value) : leftF sz ⟨f.l, v, f.pos + 1, d⟩ + sumL sz f.l[f.pos].list + 2 = leftF sz f := by
  unfold leftF
  rw [List.drop_eq_getElem_cons h]
  simp only [sumL]
  rw [hs f.l[f.pos]]
  omega

theorem PIn.mono {w : World} {B B' : Nat} (hB : B ≤ B') : ∀ (k : Nat) (l : List Vl) (v : Value), PIn w B k l v → PIn w B' k l v
  | 0, _, _, h => h
  | k + 1, l, v, h => by
    rcases h with h | ⟨b, off, c, h1, h2, h3, h4, h5⟩
    · exact Or.inl h
    · refine Or.inr ⟨b, off, c, h1, by omega, h3, h4, fun i hi => ?_⟩
      obtain ⟨vl, d1, d2⟩ := h5 i hi
      exact ⟨vl, d1, PIn.mono hB k _ _ d2⟩

theorem ret_intD {k : IntKind} {a b : Int} (h : a = b) : Ending.returned (.int k a) = .returned (.int k b) := by rw [h]

/-- All that is known while it goes on. -/
structure Going (dep sz : Vl → Nat) (t : Vl) (w wr : World) (k : Nat) (f : Fr) (r : List Fr) (km : List (Addr × Nat × Int)) (g cap rm : Nat) : Prop where
  mem : DMem wr (w.heap.size + 2) (w.heap.size + 1 + 1 + 1 + 1) g cap rm (r.reverse ++ [f]) km
  st : St dep t wr (w.heap.size + 2) f r km
  below : Below w.heap.size w wr
  left : lefts sz (f :: r) = k

theorem five_at (w : World) (o0 o1 o2 o3 o4 : Obj) : ((((((w.alloc o0).alloc o1).alloc o2).alloc o3).alloc o4).heap[w.heap.size + 1]? = some o1) ∧ ((((((w.alloc o0).alloc o1).alloc o2).alloc o3).alloc o4).heap[w.heap.size + 1 + 1]? = some o2) ∧ ((((((w.alloc o0).alloc o1).alloc o2).alloc o3).alloc o4).heap[w.heap.size + 1 + 1 + 1]? = some o3) ∧ ((((((w.alloc o0).alloc o1).alloc o2).alloc o3).alloc o4).heap[w.heap.size + 1 + 1 + 1 + 1]? = some o4) := by
  have ha : ∀ (w : World) (o : Obj), (w.alloc o).heap[w.heap.size]? = some o := fun w o => by
    show (w.heap.push o)[w.heap.size]? = _
    simp
  have h1 := ha (w.alloc o0) o1
  have h2 := ha ((w.alloc o0).alloc o1) o2
  have h3 := ha (((w.alloc o0).alloc o1).alloc o2) o3
  have h4 := ha ((((w.alloc o0).alloc o1).alloc o2).alloc o3) o4
  rw [show (w.alloc o0).heap.size = w.heap.size + 1 by simp] at h1
  rw [show ((w.alloc o0).alloc o1).heap.size = w.heap.size + 1 + 1 by simp] at h2
  rw [show (((w.alloc o0).alloc o1).alloc o2).heap.size = w.heap.size + 1 + 1 + 1 by simp] at h3
  rw [show ((((w.alloc o0).alloc o1).alloc o2).alloc o3).heap.size = w.heap.size + 1 + 1 + 1 + 1 by simp] at h4
  refine ⟨?_, ?_, ?_, h4⟩
  · rw [Below.heap_alloc _ _ _ (by simp <;> omega), Below.heap_alloc _ _ _ (by simp <;> omega), Below.heap_alloc _ _ _ (by simp <;> omega)]; exact h1
  · rw [Below.heap_alloc _ _ _ (by simp <;> omega), Below.heap_alloc _ _ _ (by simp <;> omega)]; exact h2
  · rw [Below.heap_alloc _ _ _ (by simp <;> omega)]; exact h3

theorem going_start {dep sz : Vl → Nat} {t : Vl} {w W0 : World} {k : Nat} {x0 x1 x2 vn : Value} {p : Option Addr} {n : Nat} {e0 : TypeId} {o0 : Obj} (hP : PIn w w.heap.size k t.list (.slice p t.list.length n))
    (hW0 : W0 = ((((w.alloc o0).alloc (Obj.cells #[x0, x1, x2, .slice p t.list.length n, vn] 29)).alloc (Obj.cells #[.slice (some ⟨w.heap.size + 1, 0, none⟩) 1 1, .int .i64 0, .int .i64 0] 100)).alloc (Obj.map #[] 0)).alloc (Obj.cells #[.func (.func 50) #[] #[], .slice (some ⟨w.heap.size + 1 + 1, 0, none⟩) 1 1, .map (some (w.heap.size + 1 + 1 + 1))] 104)) :
    Going dep sz t w W0 (lefts sz [⟨[t], .slice (some ⟨w.heap.size + 1, 0, none⟩) 1 1, 0, 0⟩]) ⟨[t], .slice (some ⟨w.heap.size + 1, 0, none⟩) 1 1, 0, 0⟩ [] [] (w.heap.size + 1 + 1) 1 (w.heap.size + 1 + 1 + 1) := by
  have h5 := five_at w o0 (Obj.cells #[x0, x1, x2, .slice p t.list.length n, vn] 29) (Obj.cells #[.slice (some ⟨w.heap.size + 1, 0, none⟩) 1 1, .int .i64 0, .int .i64 0] 100) (Obj.map #[] 0) (Obj.cells #[.func (.func 50) #[] #[], .slice (some ⟨w.heap.size + 1 + 1, 0, none⟩) 1 1, .map (some (w.heap.size + 1 + 1 + 1))] 104)
  rw [← hW0] at h5
  obtain ⟨h1, h2, h3, h4⟩ := h5
  have hbel : Below w.heap.size w W0 := by
    rw [hW0]
    exact (((((Below.refl _ _).alloc (Nat.le_refl _) _).alloc (by simp) _).alloc (by simp <;> omega) _).alloc (by simp <;> omega) _).alloc (by simp <;> omega) _
  have hs0 : W0.heap.size = w.heap.size + 5 := by rw [hW0]; simp
  refine ⟨⟨h4, ⟨rfl, Or.inr ⟨w.heap.size + 1 + 1, 1, _, rfl, by omega, h2, Nat.le_refl _, by unfold maxLen; omega, rfl, rfl⟩⟩, ⟨#[], 0, h3, trivial⟩, by omega, by omega, by omega, by omega⟩, ?_, hbel, rfl⟩
  refine ⟨Nat.zero_le _, by simp [maxL], trivial, rfl, fun h hm => ?_, fun e he => by simp at he, fun a n hk => absurd rfl hk⟩
  simp only [List.mem_cons, List.not_mem_nil, or_false] at hm
  subst hm
  refine ⟨by simp, k + 1, Or.inr ⟨w.heap.size + 1, 0, 1, rfl, by omega, ⟨_, _, h1⟩, by simp, fun i hi => ?_⟩⟩
  obtain rfl : i = 0 := by simpa using hi
  refine ⟨.slice p t.list.length n, ?_, PIn.mono (by omega) k _ _ (PIn.keep hbel k _ _ hP)⟩
  have hO : Owns W0 (w.heap.size + 1) #[x0, x1, x2, .slice p t.list.length n, vn] 29 := h1
  rw [hO.cell]; rfl

theorem Going.found {dep sz : Vl → Nat} (hd : IsDep dep) (hsz : IsSz sz) {t : Vl} {w wr W' : World} {k : Nat} {f : Fr} {r : List Fr} {km : List (Addr × Nat × Int)} {g cap rm d : Nat} (h : Going dep sz t w wr k f r km g cap rm) (hlt : f.pos < f.l.length) (hdd : d = maxL dep f.l[f.pos].list)
    (hM : DMem W' (w.heap.size + 2) (w.heap.size + 1 + 1 + 1 + 1) g cap rm (r.reverse ++ [⟨f.l, f.v, f.pos + 1, max f.deep (d + 1)⟩]) km) (hB : Below (w.heap.size + 2) wr W') :
    ∃ k' f', k' < k ∧ Going dep sz t w W' k' f' r km g cap rm := by
  subst hdd
  refine ⟨lefts sz (⟨f.l, f.v, f.pos + 1, max f.deep (maxL dep f.l[f.pos].list + 1)⟩ :: r), _, ?_, hM, (h.st.found hd hlt).keep hB, h.below.trans (hB.mono (by omega)), rfl⟩
  have h1 := h.left
  have h2 := left_step hsz hlt (max f.deep (maxL dep f.l[f.pos].list + 1)) f.v
  simp only [lefts] at h1 ⊢
  omega
theorem Going.push {dep sz : Vl → Nat} (hsz : IsSz sz) {t : Vl} {w wr W' : World} {k : Nat} {f : Fr} {r : List Fr} {km : List (Addr × Nat × Int)} {g cap rm g' cap' m c : Nat} {a : Addr} (h : Going dep sz t w wr k f r km g cap rm) (hlt : f.pos < f.l.length) (hw : PIn wr (w.heap.size + 2) m f.l[f.pos].list (.slice (some a) f.l[f.pos].list.length c)) (hne : f.l[f.pos].list ≠ []) (hab : a.block < w.heap.size + 2) (ha : Plain wr a)
    (hM : DMem W' (w.heap.size + 2) (w.heap.size + 1 + 1 + 1 + 1) g' cap' rm (r.reverse ++ [⟨f.l, f.v, f.pos + 1, f.deep⟩] ++ [⟨f.l[f.pos].list, .slice (some a) f.l[f.pos].list.length c, 0, 0⟩]) (updK km a f.l[f.pos].list.length (-1))) (hB : Below (w.heap.size + 2) wr W') :
    ∃ k' f' r' km', k' < k ∧ Going dep sz t w W' k' f' r' km' g' cap' rm := by
  refine ⟨lefts sz (⟨f.l[f.pos].list, .slice (some a) f.l[f.pos].list.length c, 0, 0⟩ :: ⟨f.l, f.v, f.pos + 1, f.deep⟩ :: r), _, _, _, ?_, ?_, (h.st.push hlt hw hne hab ha).keep hB, h.below.trans (hB.mono (by omega)), rfl⟩
  · have h1 := h.left
    have h2 := left_step hsz hlt f.deep f.v
    simp only [lefts] at h1 ⊢
    have h3 : leftF sz ⟨f.l[f.pos].list, .slice (some a) f.l[f.pos].list.length c, 0, 0⟩ = sumL sz f.l[f.pos].list + 1 := by simp [leftF]
    omega
  · rw [List.reverse_cons]; exact hM
theorem Going.pop {dep sz : Vl → Nat} (hd : IsDep dep) {t : Vl} {w wr W' : World} {k : Nat} {f gf : Fr} {r : List Fr} {km : List (Addr × Nat × Int)} {g cap rm c : Nat} {a : Addr} (h : Going dep sz t w wr k f (gf :: r) km g cap rm) (hp : f.pos = f.l.length) (hv : f.v = .slice (some a) f.l.length c) (hab : a.block < w.heap.size + 2) (ha : Plain wr a)
    (hM : DMem W' (w.heap.size + 2) (w.heap.size + 1 + 1 + 1 + 1) g cap rm (r.reverse ++ [⟨gf.l, gf.v, gf.pos, max gf.deep (f.deep + 1)⟩]) (updK km a f.l.length (f.deep : Int))) (hB : Below (w.heap.size + 2) wr W') :
    ∃ k' f' km', k' < k ∧ Going dep sz t w W' k' f' r km' g cap rm := by
  refine ⟨lefts sz (⟨gf.l, gf.v, gf.pos, max gf.deep (f.deep + 1)⟩ :: r), _, _, ?_, hM, (h.st.pop hd hp hv hab ha).keep hB, h.below.trans (hB.mono (by omega)), rfl⟩
  have h1 := h.left
  simp only [lefts, leftF] at h1 ⊢
  omega

set_option maxHeartbeats 4000000 in
theorem measured_any (dep sz : Vl → Nat) (hd : IsDep dep) (hsz : IsSz sz) (t : Vl) (x0 x1 x2 vl vn : Value) (k : Nat) (w : World) (hP : PIn w w.heap.size k t.list vl) (hdt : dep t ≤ 2000000) (hx : ∃ p n p' n', vl = .slice p t.list.length n ∧ vn = .slice p' t.names.length n') (hx0 : x0 = .int .i64 t.kind) (hx1 : x1 = .int .i64 t.num) (hx2 : x2 = .string t.text) :
    Calls Try.prog 49 #[.agg #[x0, x1, x2, vl, vn], .func (.func 50) #[] #[]] w fun e w' => e = .returned (.int .i64 (dep t : Int)) ∧ Below w.heap.size w w' := by
  obtain ⟨p, n, p', n', rfl, rfl⟩ := hx
  subst hx0 hx1 hx2
  have hmm := @run_makeMap Try.prog
  have hsf : ∀ (W : World) (a : Addr), (store a (.func (.func 50) #[] #[]) .plain).run Try.prog W = stored Try.prog W a (.func (.func 50) #[] #[]) .plain := fun W a => run_store Try.prog W a _ _ rfl
  have HP : Hid _ := hP
  clear hP
  go_enter Try.func49, Try.ntmps49
  go_wp2_with fail
  clear hmm hsf
  obtain ⟨W0, hW0⟩ : ∃ W0, W0 = ((((w.alloc (Obj.cells #[.int .i64 t.kind, .int .i64 t.num, .string t.text, .slice p t.list.length n, .slice p' t.names.length n'] 29)).alloc (Obj.cells #[.int .i64 t.kind, .int .i64 t.num, .string t.text, .slice p t.list.length n, .slice p' t.names.length n'] 29)).alloc (Obj.cells #[.slice (some ⟨w.heap.size + 1, 0, none⟩) 1 1, .int .i64 0, .int .i64 0] 100)).alloc (Obj.map #[] 0)).alloc (Obj.cells #[.func (.func 50) #[] #[], .slice (some ⟨w.heap.size + 1 + 1, 0, none⟩) 1 1, .map (some (w.heap.size + 1 + 1 + 1))] 104) := ⟨_, rfl⟩
  rw [← hW0]
  have HG0 : Hid (Going dep sz t w W0 (lefts sz [⟨[t], .slice (some ⟨w.heap.size + 1, 0, none⟩) 1 1, 0, 0⟩]) ⟨[t], .slice (some ⟨w.heap.size + 1, 0, none⟩) 1 1, 0, 0⟩ [] [] (w.heap.size + 1 + 1) 1 (w.heap.size + 1 + 1 + 1)) := going_start (e0 := 0) HP.out hW0
  clear hW0
  go_loopg [6] (lefts sz [⟨[t], .slice (some ⟨w.heap.size + 1, 0, none⟩) 1 1, 0, 0⟩]) (fun k p wr => ∃ f r km g cap rm, Hid (Going dep sz t w wr k f r km g cap rm))
  case atStart => exact ⟨_, _, _, _, _, _, HG0⟩
  case round =>
    obtain ⟨f, r, km, g, cap, rm, HG⟩ := hrel
    have hmem := HG.out.mem
    have hst := HG.out.st
    have hNr : r.reverse.length = r.length := List.length_reverse
    obtain ⟨hfne, kf, hPf⟩ := hst.frames f List.mem_cons_self
    obtain ⟨b, off, c, m, hfv, hbB, hpl, hlen80, hels⟩ := hPf.at hfne
    have hcnt := hst.chain.count hd
    rw [hst.bot] at hcnt
    have hbt : maxL dep [t] = dep t := by simp [maxL]
    have hN : r.length ≤ 2000000 := by omega
    have hNi : (r.length : Int) ≤ 2000000 := by omega
    have hfd : f.deep ≤ 2000000 := by have h1 := hst.deep; have h2 := maxL_take_le dep f.l f.pos; omega
    have hfdi : (f.deep : Int) ≤ 2000000 := by omega
    have hli : (f.l.length : Int) ≤ 140737488351232 := by omega
    have b0 : wr.cell? ⟨w.heap.size + 1 + 1 + 1 + 1, 1, none⟩ = some (.slice (some ⟨g, 0, none⟩) (r.length + 1) cap) := by rw [hmem.box.cell]; simp
    have c0 : wr.cell? ⟨g, r.length * 3, none⟩ = some (.slice (some ⟨b, off, none⟩) f.l.length c) := by
      have h1 := hmem.row.cellAt (r.length * 3) (by simp <;> omega)
      have h2 := flat_at r.reverse f 0
      rw [hNr, Nat.add_zero] at h2
      rw [h1, h2]; show some f.v = _; rw [hfv]
    have c1 : wr.cell? ⟨g, r.length * 3 + 1, none⟩ = some (.int .i64 (f.pos : Int)) := by
      have h1 := hmem.row.cellAt (r.length * 3 + 1) (by simp <;> omega)
      have h2 := flat_at r.reverse f 1
      rw [hNr] at h2
      rw [h1, h2]; rfl
    have c2 : wr.cell? ⟨g, r.length * 3 + 2, none⟩ = some (.int .i64 (f.deep : Int)) := by
      have h1 := hmem.row.cellAt (r.length * 3 + 2) (by simp <;> omega)
      have h2 := flat_at r.reverse f 2
      rw [hNr] at h2
      rw [h1, h2]; rfl
    have z1 : wr.frozen? ⟨g, r.length * 3 + 1, none⟩ = false := hmem.row.frozenAt _
    have hpos := hst.pos
    have hposi : (f.pos : Int) ≤ 140737488351232 := by omega
    have hn1 : (r.length : Int) < (r.length : Int) + 1 := by omega
    by_cases hlt : f.pos < f.l.length
    · have hlti : (f.pos : Int) < (f.l.length : Int) := by omega
      obtain ⟨vl, e3, hPl⟩ := hels f.pos hlt
      obtain ⟨ea, ec, rfl⟩ := hPl.slice
      have HPL : Hid (PIn wr (w.heap.size + 2) m f.l[f.pos].list (.slice ea f.l[f.pos].list.length ec)) := hPl
      have HST : Hid _ := hst
      have HMEM : Hid _ := hmem
      have hd1 : maxL dep f.l[f.pos].list ≤ 2000000 := by
        have h1 := maxL_mem (d := dep) (List.getElem_mem hlt)
        rw [hd] at h1
        omega
      have HD1 : Hid (maxL dep f.l[f.pos].list ≤ 2000000) := hd1
      clear hels hPl hst hmem hd1 hPf hpl
      go_wp2_with fail
      go_quiet (fail)
      rename Nat => nq0
      go_wp2_with fail
      go_quiet (fail)
      rename Nat => nq1
      go_wp2_with fail
      obtain ⟨WX, hWX⟩ : ∃ WX, WX = (wr.drewN (nq0 + nq1)).setCell ⟨g, r.length * 3 + 1, none⟩ (.int .i64 ((f.pos : Int) + 1)) := ⟨_, rfl⟩
      rw [← hWX]
      have hMX : DMem WX (w.heap.size + 2) (w.heap.size + 1 + 1 + 1 + 1) g cap rm (r.reverse ++ [⟨f.l, f.v, f.pos + 1, f.deep⟩]) km := by
        have h := (HMEM.out.draws (nq0 + nq1)).topPos (x := (f.pos : Int) + 1) (n := f.pos + 1) (by omega)
        rw [hNr] at h
        rw [hWX]; exact h
      have hBX : Below (w.heap.size + 2) wr WX := by
        rw [hWX]; exact (Below.draws (Below.refl _ _) _).setCell HMEM.out.gB.1 _
      have HMX : Hid _ := hMX
      have HBX : Hid _ := hBX
      clear hMX hBX hWX
      by_cases hne : f.l[f.pos].list = []
      · have hl0 : f.l[f.pos].list.length = 0 := by rw [hne]; rfl
        have hm0 : Hid (0 = maxL dep f.l[f.pos].list) := by show _ = _; rw [hne]; rfl
        rw [hl0]
        refine (enter_empty WX _ _ g cap rm r.reverse ⟨f.l, f.v, f.pos + 1, f.deep⟩ km ea ec HMX.out (by omega) (by show f.deep ≤ _; omega)).mono ?_
        rintro e W1 ⟨rfl, hM1, hB1⟩
        obtain ⟨k', f', hk', hG'⟩ := HG.out.found hd hsz hlt hm0.out hM1 (HBX.out.trans hB1)
        have HG' : Hid _ := hG'
        clear hM1 hB1 hG'
        go_wp2_with fail
        go_roundg k'
        case rel => exact ⟨_, _, _, _, _, _, HG'⟩
        case measure => exact hk'
      · obtain ⟨b', off', c', m', hv', hbB', hpl', hlen80', _⟩ := HPL.out.at hne
        simp only [Value.slice.injEq, true_and] at hv'
        obtain ⟨rfl, rfl⟩ := hv'
        have hl1 : 1 ≤ f.l[f.pos].list.length := List.length_pos_iff.2 hne
        have hplX : Plain WX ⟨b', off', none⟩ := hpl'.below HBX.out hbB'
        have hkmX : ∀ e ∈ km, e.1.block < w.heap.size + 2 ∧ Plain WX e.1 := fun e he => ⟨(St.plain HST.out e he).1, (St.plain HST.out e he).2.below HBX.out (St.plain HST.out e he).1⟩
        by_cases hkn : knownK km ⟨b', off', none⟩ f.l[f.pos].list.length = 0
        · refine (enter_new WX _ _ g cap rm r.reverse ⟨f.l, f.v, f.pos + 1, f.deep⟩ km b' off' f.l[f.pos].list.length ec f.l[f.pos].list HMX.out (by omega) (by show f.deep ≤ _; omega) hl1 (by omega) hplX hbB' hkmX hkn).mono ?_
          rintro e W1 ⟨rfl, ⟨g', cap', hM1⟩, hB1⟩
          obtain ⟨k', f', r', km', hk', hG'⟩ := HG.out.push hsz hlt HPL.out hne hbB' hpl' hM1 (HBX.out.trans hB1)
          have HG' : Hid _ := hG'
          clear hM1 hB1 hG' hkn hkmX hplX
          go_wp2_with fail
          go_roundg k'
          case rel => exact ⟨_, _, _, _, _, _, HG'⟩
          case measure => exact hk'
        · have hkd := St.within hd HST.out hlt HPL.out hne hkn
          have hm1 : 1 ≤ maxL dep f.l[f.pos].list := by
            have h1 := maxL_mem (d := dep) (List.getElem_mem (l := f.l[f.pos].list) (n := 0) (by omega))
            rw [hd] at h1
            omega
          refine (enter_known WX _ _ g cap rm r.reverse ⟨f.l, f.v, f.pos + 1, f.deep⟩ km b' off' f.l[f.pos].list.length ec (maxL dep f.l[f.pos].list) HMX.out (by omega) (by show f.deep ≤ _; omega) hl1 (by omega) hplX hbB' hkmX hkd hm1 (by have := HD1.out; omega)).mono ?_
          rintro e W1 ⟨rfl, hM1, hB1⟩
          obtain ⟨k', f', hk', hG'⟩ := HG.out.found hd hsz hlt rfl hM1 (HBX.out.trans hB1)
          have HG' : Hid _ := hG'
          clear hM1 hB1 hG' hkn hkmX hplX hkd hm1
          go_wp2_with fail
          go_roundg k'
          case rel => exact ⟨_, _, _, _, _, _, HG'⟩
          case measure => exact hk'
    · have hlti : ¬ (f.pos : Int) < (f.l.length : Int) := by omega
      have hpe : f.pos = f.l.length := by omega
      cases r with
      | nil =>
        have hfin : Hid (f.deep = dep t) := by
          have h1 := hst.deep
          have h2 : f.l = [t] := hst.bot
          show _ = _
          rw [h1, hpe, List.take_length, h2, hbt]
        have hr0 : (([] : List Fr).length : Int) = 0 := rfl
        clear hels hst hmem hPf hpl
        simp only [List.length_nil, Nat.zero_mul, Nat.zero_add] at b0 c0 c1 c2 z1
        go_wp2_with fail
        go_quiet (fail)
        go_wp2_with fail
        go_ret
        exact ⟨ret_intD (by rw [hfin.out]), Below.draws HG.out.below _⟩
      | cons gf r =>
        have HST : Hid _ := hst
        have HMEM : Hid _ := hmem
        have HPL : Hid (Plain wr ⟨b, off, none⟩) := hpl
        have hre : (((gf :: r).length : Int) + 1 == 1) = false := by simp <;> omega
        have HFV : Hid (f.v = .slice (some ⟨b, off, none⟩) f.l.length c) := hfv
        have HPE : Hid (f.pos = f.l.length) := hpe
        have HBT : Hid (maxL dep [t] = dep t) := hbt
        clear hfv hpe hbt
        obtain ⟨N, hN'⟩ : ∃ N, (gf :: r).length = N := ⟨_, rfl⟩
        rw [hN'] at b0 c0 c1 c2 z1 hN hNi hn1 hcnt hre hNr
        have HN' : Hid ((gf :: r).length = N) := hN'
        clear hN'
        have hgd : gf.deep ≤ 2000000 := by
          obtain ⟨_, h4, _⟩ := hst.chain
          have h1 := maxL_take_le dep gf.l (gf.pos - 1)
          have h2 := Chain.count hd hst.chain.2.2
          have h3 := hst.bot
          simp only [bot] at h3
          rw [h3] at h2
          have h5 := HBT.out
          omega
        clear hels hst hmem hPf hpl
        go_wp2_with fail
        go_quiet (fail)
        rename Nat => nq0
        go_wp2_with fail
        have hM0 : DMem (wr.drewN nq0) (w.heap.size + 2) (w.heap.size + 1 + 1 + 1 + 1) g cap rm (r.reverse ++ [gf] ++ [f]) km := by
          have h := HMEM.out.draws nq0
          rw [List.reverse_cons] at h
          exact h
        refine (leave_any (wr.drewN nq0) _ _ g cap rm r.reverse gf f km b off f.l.length c hM0 (by have := HN'.out; simp at this; simp; omega) (by omega) (by omega) (by omega) HFV.out (List.length_pos_iff.2 hfne) (by omega) (HPL.out.below (Below.draws (Below.refl _ _) nq0) hbB) hbB (fun e he => ⟨(St.plain HST.out e he).1, (St.plain HST.out e he).2.below (Below.draws (Below.refl _ _) nq0) (St.plain HST.out e he).1⟩)).mono ?_
        rintro e W1 ⟨rfl, hM1, hB1⟩
        obtain ⟨k', f', km', hk', hG'⟩ := HG.out.pop hd HPE.out HFV.out hbB HPL.out hM1 ((Below.draws (Below.refl _ _) nq0).trans hB1)
        have HG' : Hid _ := hG'
        clear hM1 hB1 hG' hM0
        go_wp2_with fail
        go_roundg k'
        case rel => exact ⟨_, _, _, _, _, _, HG'⟩
        case measure => exact hk'

set_option maxHeartbeats 1000000 in
theorem implDeep_any (dep sz : Vl → Nat) (hd : IsDep dep) (hsz : IsSz sz) (t : Vl) (x0 x1 x2 vl vn : Value) (k : Nat) (w : World) (hP : PIn w w.heap.size k t.list vl) (hdt : dep t ≤ 2000000) (hx : ∃ p n p' n', vl = .slice p t.list.length n ∧ vn = .slice p' t.names.length n') (hx0 : x0 = .int .i64 t.kind) (hx1 : x1 = .int .i64 t.num) (hx2 : x2 = .string t.text) :
    Calls Try.prog 22 #[.agg #[x0, x1, x2, vl, vn]] w fun e w' => e = .returned (.int .i64 (dep t : Int)) ∧ Below w.heap.size w w' := by
  have HC : Hid (∀ o, Calls Try.prog 49 #[.agg #[x0, x1, x2, vl, vn], .func (.func 50) #[] #[]] (w.alloc o) fun e w' => e = .returned (.int .i64 (dep t : Int)) ∧ Below w.heap.size w w') := fun o => by
    have hb : Below w.heap.size w (w.alloc o) := (Below.refl _ _).alloc (Nat.le_refl _) o
    refine (measured_any dep sz hd hsz t x0 x1 x2 vl vn k (w.alloc o) (PIn.mono (by simp) k _ _ (PIn.keep hb k _ _ hP)) hdt hx hx0 hx1 hx2).mono ?_
    rintro e w' ⟨rfl, h2⟩
    exact ⟨rfl, hb.trans (h2.mono (by simp))⟩
  obtain ⟨p, n, p', n', rfl, rfl⟩ := hx
  subst hx0 hx1 hx2
  clear hP
  go_enter Try.func22, Try.ntmps22
  go_wp2_with fail
  refine (HC.out _).mono ?_
  rintro e w1 ⟨rfl, hb1⟩
  have HB : Hid (Below w.heap.size w w1) := hb1
  clear hb1
  go_wp2_with fail
  go_ret
  exact ⟨rfl, HB.out⟩

end Go.Proofs.Ytdaohfeajicamaa

namespace Go.Proofs.Ytdaohfeajicamaa
open Go.RowKit
set_option linter.unusedVariables false
set_option linter.unusedSimpArgs false

theorem ret_intS {k : IntKind} {a b : Int} (h : a = b) : Ending.returned (.int k a) = .returned (.int k b) := by rw [h]

/-! ### Sizes, with depths -/
end Go.Proofs.Ytdaohfeajicamaa
