
/-
  DERIVED. A MAP BY PLACES: looked up, updated.
-/
import Derived.Test.YtedeeckbgjalcaaPlaceEq
import Derived.MapKept
namespace Go.Proofs.Ytedeeckbgjalcaa
open Go.RowKit
set_option linter.unusedVariables false
set_option linter.unusedSimpArgs false

def MapIs (w : World) (r : Nat) (km : List (Addr × Nat × Int)) : Prop := ∃ es clock, w.heap[r]? = some (.map es clock) ∧ Ents km es.toList

/-- What is known of a place: 0, if nothing is. -/
def knownK (km : List (Addr × Nat × Int)) (a : Addr) (n : Nat) : Int := ((findK a n km 0).map (·.2)).getD 0

theorem check_key (e : Bool) (a : Addr) (n : Nat) (w : World) : (Instr.checkKey e 10000 101 (keyV a n)).run Try.prog w = .ok () w := by kernel_rfl

theorem find_key {w : World} {a : Addr} {n : Nat} {km : List (Addr × Nat × Int)} {es : List MapEntry} (ha : Plain w a) (h : Ents km es) (hp : ∀ e ∈ km, Plain w e.1) :
    (Instr.findKey 101 (keyV a n) es).run Try.prog w = .ok ((findK a n km 0).map fun p => (p.1, Value.int .i64 p.2)) w := by
  have hu : Try.prog.underlying 101 = some (.struct (Try.prog.fieldsOf 101)) := by kernel_rfl
  have hf := find_asking (n := n) ha km es 0 h hp
  unfold Instr.findKey
  simp only [Sem.run_bind, run_underlying hu, Result.andThen_ok]
  cases es with
  | nil =>
    cases km with
    | nil => simp [Instr.findNow, findK]
    | cons e r => exact h.elim
  | cons b r =>
    simp only [Instr.findNow, Instr.sameNow]
    exact hf

theorem run_lookup_place {w : World} {r n : Nat} {a : Addr} {km : List (Addr × Nat × Int)} (hm : MapIs w r km) (ha : Plain w a) (hp : ∀ e ∈ km, Plain w e.1) :
    (Instr.lookup 83 (.map (some r)) (keyV a n) false).run Try.prog w = .ok (.int .i64 (knownK km a n)) w := by
  obtain ⟨es, clock, h1, h2⟩ := hm
  have hu : Try.prog.underlying 83 = some (.map 101 3) := by kernel_rfl
  have hz : ∀ w, (zeroValue 3).run Try.prog w = .ok (.int .i64 0) w := fun w => by kernel_rfl
  unfold Instr.lookup
  simp only [Sem.run_bind, run_underlying hu, Result.andThen_ok, MapKept.run_getObj_map h1, check_key, find_key ha h2 hp, Sem.run_pure]
  unfold knownK
  cases hk : findK a n km 0 with
  | none => simp [hz]
  | some p => simp

/-- The entries with one set. -/
def updK (km : List (Addr × Nat × Int)) (a : Addr) (n : Nat) (v : Int) : List (Addr × Nat × Int) :=
  match findK a n km 0 with
  | some p => km.set p.1 (a, n, v)
  | none => km ++ [(a, n, v)]

theorem findK_shift (a : Addr) (n : Nat) : ∀ (km : List (Addr × Nat × Int)) (i : Nat), findK a n km (i + 1) = (findK a n km i).map fun p => (p.1 + 1, p.2)
  | [], _ => rfl
  | (b, m, v) :: r, i => by
    unfold findK
    split
    · rfl
    · exact findK_shift a n r (i + 1)
theorem findK_some {a : Addr} {n : Nat} : ∀ {km : List (Addr × Nat × Int)} {p : Nat × Int}, findK a n km 0 = some p → ∃ h : p.1 < km.length, km[p.1] = (a, n, p.2)
  | [], p, h => by simp [findK] at h
  | (b, m, v) :: r, p, h => by
    unfold findK at h
    split at h
    · rename_i he
      simp only [Option.some.injEq] at h
      subst h
      exact ⟨by simp, by simp [he.1, he.2]⟩
    · rw [findK_shift] at h
      simp only [Option.map_eq_some_iff] at h
      obtain ⟨q, h1, rfl⟩ := h
      obtain ⟨h2, h3⟩ := findK_some h1
      exact ⟨by simpa using h2, by simpa using h3⟩

theorem Ents.len : ∀ {km : List (Addr × Nat × Int)} {es : List MapEntry}, Ents km es → km.length = es.length
  | [], [], _ => rfl
  | [], _ :: _, h => h.elim
  | _ :: _, [], h => h.elim
  | _ :: _, _ :: _, h => by simp [Ents.len h.2]
theorem Ents.get : ∀ {km : List (Addr × Nat × Int)} {es : List MapEntry}, Ents km es → ∀ (i : Nat) (h : i < km.length) (h' : i < es.length), entryOf km[i] es[i]
  | [], [], _, i, h, _ => by simp at h
  | [], _ :: _, h, _, _, _ => h.elim
  | _ :: _, [], h, _, _, _ => h.elim
  | _ :: _, _ :: _, h, 0, _, _ => h.1
  | _ :: _, _ :: _, h, i + 1, h1, h2 => Ents.get h.2 i (by simpa using h1) (by simpa using h2)
theorem Ents.set : ∀ {km : List (Addr × Nat × Int)} {es : List MapEntry}, Ents km es → ∀ (i : Nat) {e : Addr × Nat × Int} {b : MapEntry}, entryOf e b → Ents (km.set i e) (es.set i b)
  | [], [], h, i, _, _, _ => by simpa using h
  | [], _ :: _, h, _, _, _, _ => h.elim
  | _ :: _, [], h, _, _, _, _ => h.elim
  | _ :: _, _ :: _, h, 0, _, _, hb => ⟨hb, h.2⟩
  | _ :: _, _ :: _, h, i + 1, _, _, hb => ⟨h.1, Ents.set h.2 i hb⟩
theorem Ents.snoc : ∀ {km : List (Addr × Nat × Int)} {es : List MapEntry}, Ents km es → ∀ {e : Addr × Nat × Int} {b : MapEntry}, entryOf e b → Ents (km ++ [e]) (es ++ [b])
  | [], [], _, _, _, hb => ⟨hb, trivial⟩
  | [], _ :: _, h, _, _, _ => h.elim
  | _ :: _, [], h, _, _, _ => h.elim
  | _ :: _, _ :: _, h, _, _, hb => ⟨h.1, Ents.snoc h.2 hb⟩

theorem same_bits (a : Addr) (n : Nat) : Instr.sameBits 10000 (keyV a n) (keyV a n) = true := by
  simp [keyV, Instr.sameBits]

/-- The map's block with other entries, all else as it was. -/
theorem run_update_place {w : World} {r n : Nat} {a : Addr} {km : List (Addr × Nat × Int)} (v : Int) (hm : MapIs w r km) (ha : Plain w a) (hp : ∀ e ∈ km, Plain w e.1) :
    ∃ o, (Instr.mapUpdate 83 (.map (some r)) (keyV a n) (.int .i64 v)).run Try.prog w = .ok () { w with heap := w.heap.setIfInBounds r o } ∧ MapIs { w with heap := w.heap.setIfInBounds r o } r (updK km a n v) := by
  obtain ⟨es, clock, h1, h2⟩ := hm
  have hlt : r < w.heap.size := by
    by_cases hx : r < w.heap.size
    · exact hx
    · rw [Array.getElem?_eq_none (by omega)] at h1; simp at h1
  have hu : Try.prog.underlying 83 = some (.map 101 3) := by kernel_rfl
  have hl := h2.len
  unfold Instr.mapUpdate updK
  simp only [Sem.run_bind, run_underlying hu, Result.andThen_ok, MapKept.run_getObj_map h1, check_key, find_key ha h2 hp]
  cases hk : findK a n km 0 with
  | none =>
    refine ⟨.map (es.push { key := keyV a n, val := .int .i64 v, born := clock }) (clock + 1), ?_, es.push { key := keyV a n, val := .int .i64 v, born := clock }, clock + 1, ?_, ?_⟩
    · simp only [Option.map_none]
      exact MapKept.run_setObj_map _ h1
    · simp [hlt]
    · rw [Array.toList_push]
      exact h2.snoc ⟨rfl, rfl⟩
  | some p =>
    obtain ⟨hp1, hp2⟩ := findK_some hk
    have hpe : p.1 < es.size := by rw [← Array.length_toList]; omega
    have hkey : es[p.1].key = keyV a n := by
      have := (h2.get p.1 hp1 (by rw [Array.length_toList]; exact hpe)).1
      rw [hp2] at this
      simpa using this
    have hst : (Instr.keyThatStays (((es[p.1]?).map (·.key)).getD (keyV a n)) (keyV a n)).run Try.prog w = .ok (keyV a n) w := by
      unfold Instr.keyThatStays
      rw [Array.getElem?_eq_getElem hpe, Option.map_some, Option.getD_some, hkey, same_bits, if_pos rfl]
      rfl
    refine ⟨.map (es.modify p.1 fun e => { e with key := keyV a n, val := .int .i64 v }) clock, ?_, es.modify p.1 fun e => { e with key := keyV a n, val := .int .i64 v }, clock, ?_, ?_⟩
    · simp only [Option.map_some, Sem.run_bind, hst, Result.andThen_ok]
      exact MapKept.run_setObj_map _ h1
    · simp [hlt]
    · have hmod : (es.modify p.1 fun e => { e with key := keyV a n, val := .int .i64 v }).toList = es.toList.set p.1 { es[p.1] with key := keyV a n, val := .int .i64 v } := by
        rw [Array.toList_modify]
        apply List.ext_getElem?
        intro i
        rw [List.getElem?_modify, List.getElem?_set]
        by_cases hi : p.1 = i
        · subst hi; simp [hpe]
        · simp [hi]
      rw [hmod]
      exact h2.set p.1 ⟨rfl, rfl⟩

def lookK (a : Addr) (n : Nat) : List (Addr × Nat × Int) → Option Int
  | [] => none
  | (b, m, v) :: r => if a = b ∧ n = m then some v else lookK a n r
theorem findK_look (a : Addr) (n : Nat) : ∀ (km : List (Addr × Nat × Int)) (i : Nat), (findK a n km i).map (·.2) = lookK a n km
  | [], _ => rfl
  | (b, m, v) :: r, i => by
    unfold findK lookK
    split
    · rfl
    · exact findK_look a n r (i + 1)
def updR (a : Addr) (n : Nat) (v : Int) : List (Addr × Nat × Int) → List (Addr × Nat × Int)
  | [] => [(a, n, v)]
  | (b, m, u) :: r => if a = b ∧ n = m then (a, n, v) :: r else (b, m, u) :: updR a n v r
theorem updK_updR (a : Addr) (n : Nat) (v : Int) : ∀ km : List (Addr × Nat × Int), updK km a n v = updR a n v km
  | [] => rfl
  | (b, m, u) :: r => by
    have ih := updK_updR a n v r
    unfold updK at ih ⊢
    unfold findK updR
    by_cases h : a = b ∧ n = m
    · rw [if_pos h, if_pos h]; rfl
    · rw [if_neg h, if_neg h, findK_shift, ← ih]
      cases findK a n r 0 <;> rfl
theorem lookK_updR (a b : Addr) (n m : Nat) (v : Int) : ∀ km : List (Addr × Nat × Int), lookK b m (updR a n v km) = if b = a ∧ m = n then some v else lookK b m km
  | [] => by simp [updR, lookK]
  | (c, k, u) :: r => by
    have ih := lookK_updR a b n m v r
    unfold updR
    by_cases h : a = c ∧ n = k
    · rw [if_pos h]
      obtain ⟨rfl, rfl⟩ := h
      unfold lookK
      by_cases h2 : b = a ∧ m = n
      · rw [if_pos h2, if_pos h2]
      · rw [if_neg h2, if_neg h2, if_neg h2]
    · rw [if_neg h]
      unfold lookK
      rw [ih]
      by_cases h3 : b = c ∧ m = k
      · rw [if_pos h3, if_pos h3, if_neg (fun h4 => h ⟨h4.1.symm.trans h3.1, h4.2.symm.trans h3.2⟩)]
      · rw [if_neg h3, if_neg h3]
theorem knownK_eq (km : List (Addr × Nat × Int)) (a : Addr) (n : Nat) : knownK km a n = (lookK a n km).getD 0 := by
  unfold knownK; rw [findK_look]
theorem knownK_upd {km : List (Addr × Nat × Int)} {a b : Addr} {n m : Nat} {v : Int} : knownK (updK km a n v) b m = if b = a ∧ m = n then v else knownK km b m := by
  rw [knownK_eq, knownK_eq, updK_updR, lookK_updR]
  split <;> rfl
theorem updR_mem {a : Addr} {n : Nat} {v : Int} {P : Addr → Prop} (ha : P a) : ∀ {km : List (Addr × Nat × Int)}, (∀ e ∈ km, P e.1) → ∀ e ∈ updR a n v km, P e.1
  | [], _, e, he => by simp [updR] at he; rw [he]; exact ha
  | (b, m, u) :: r, h, e, he => by
    unfold updR at he
    split at he
    · rcases List.mem_cons.1 he with rfl | he
      · exact ha
      · exact h e (List.mem_cons_of_mem _ he)
    · rcases List.mem_cons.1 he with rfl | he
      · exact h _ List.mem_cons_self
      · exact updR_mem ha (fun x hx => h x (List.mem_cons_of_mem _ hx)) e he
theorem updK_mem {km : List (Addr × Nat × Int)} {a : Addr} {n : Nat} {v : Int} {P : Addr → Prop} (ha : P a) (h : ∀ e ∈ km, P e.1) : ∀ e ∈ updK km a n v, P e.1 := by
  rw [updK_updR]; exact updR_mem ha h

end Go.Proofs.Ytedeeckbgjalcaa
