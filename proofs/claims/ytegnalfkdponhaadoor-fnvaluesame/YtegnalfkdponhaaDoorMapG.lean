
/-
  DERIVED. MAPS OF NUMBERS BY KEYS OF ANY KIND, counted up: looked up, an entry taken, stored into. No walk.
-/
import Derived.WalkKit
import Derived.MapKept
namespace Go.Proofs.YtegnalfkdponhaaDoor
open Go.RowKit
set_option linter.unusedVariables false
set_option linter.unusedSimpArgs false

def findG {κ : Type} [DecidableEq κ] (a : κ) : List (κ × Int) → Nat → Option (Nat × Int)
  | [], _ => none
  | (b, v) :: r, i => if a = b then some (i, v) else findG a r (i + 1)
def knownG {κ : Type} [DecidableEq κ] (km : List (κ × Int)) (a : κ) : Int := ((findG a km 0).map (·.2)).getD 0
def EntsG {κ : Type} (kv : κ → Value) : List (κ × Int) → List MapEntry → Prop
  | [], [] => True
  | e :: r, b :: s => (b.key = kv e.1 ∧ b.val = .int .i64 e.2) ∧ EntsG kv r s
  | _, _ => False

/-- What is asked of the keys of a map: by G two of them are told apart. -/
structure KeyOk {κ : Type} [DecidableEq κ] (P : Program) (kt : TypeId) (kv : κ → Value) (G : World → κ → Prop) : Prop where
  find : ∀ (w : World) (a : κ) (km : List (κ × Int)) (es : List MapEntry), EntsG kv km es → G w a → (∀ e ∈ km, G w e.1) → (Instr.findKey kt (kv a) es).run P w = .ok ((findG a km 0).map fun p => (p.1, Value.int .i64 p.2)) w
  check : ∀ (e : Bool) (a : κ) (w : World), (Instr.checkKey e 10000 kt (kv a)).run P w = .ok () w
  bits : ∀ a : κ, Instr.sameBits 10000 (kv a) (kv a) = true
  stay : ∀ (w : World) (r : Nat) (es : Array MapEntry) (clock : Nat) (o : Obj) (a : κ), w.heap[r]? = some (.map es clock) → G w a → G { w with heap := w.heap.setIfInBounds r o } a

def MapG {κ : Type} (kv : κ → Value) (w : World) (r : Nat) (km : List (κ × Int)) : Prop :=
  ∃ es clock, w.heap[r]? = some (.map es clock) ∧ EntsG kv km es.toList ∧ (∀ x ∈ es.toList, x.born < clock) ∧ (es.toList.map (·.born)).Nodup

theorem MapG.same {κ : Type} {kv : κ → Value} {w w' : World} {r : Nat} {km : List (κ × Int)} (h : MapG kv w r km) (hs : w'.heap[r]? = w.heap[r]?) : MapG kv w' r km := by
  obtain ⟨es, c, h1, h2⟩ := h
  exact ⟨es, c, hs.trans h1, h2⟩
theorem MapG.lt {κ : Type} {kv : κ → Value} {w : World} {r : Nat} {km : List (κ × Int)} (h : MapG kv w r km) : r < w.heap.size := by
  obtain ⟨es, c, h1, h2⟩ := h
  by_cases hx : r < w.heap.size
  · exact hx
  · rw [Array.getElem?_eq_none (by omega)] at h1; simp at h1

theorem findG_shift {κ : Type} [DecidableEq κ] (a : κ) : ∀ (km : List (κ × Int)) (i : Nat), findG a km (i + 1) = (findG a km i).map fun p => (p.1 + 1, p.2)
  | [], _ => rfl
  | (b, v) :: r, i => by
    unfold findG
    split
    · rfl
    · exact findG_shift a r (i + 1)
theorem findG_some {κ : Type} [DecidableEq κ] {a : κ} : ∀ {km : List (κ × Int)} {p : Nat × Int}, findG a km 0 = some p → ∃ h : p.1 < km.length, km[p.1] = (a, p.2)
  | [], p, h => by simp [findG] at h
  | (b, v) :: r, p, h => by
    unfold findG at h
    split at h
    · rename_i he
      simp only [Option.some.injEq] at h
      subst h
      exact ⟨by simp, by simp [he]⟩
    · rw [findG_shift] at h
      simp only [Option.map_eq_some_iff] at h
      obtain ⟨q, h1, rfl⟩ := h
      obtain ⟨h2, h3⟩ := findG_some h1
      exact ⟨by simpa using h2, by simpa using h3⟩
theorem knownG_cons {κ : Type} [DecidableEq κ] (a b : κ) (v : Int) (r : List (κ × Int)) : knownG ((b, v) :: r) a = if a = b then v else knownG r a := by
  have h : findG a ((b, v) :: r) 0 = if a = b then some (0, v) else findG a r 1 := rfl
  unfold knownG
  rw [h, findG_shift]
  by_cases he : a = b
  · rw [if_pos he, if_pos he]; rfl
  · rw [if_neg he, if_neg he]; cases findG a r 0 <;> rfl
theorem knownG_nil {κ : Type} [DecidableEq κ] (a : κ) : knownG ([] : List (κ × Int)) a = 0 := rfl
theorem knownG_snoc {κ : Type} [DecidableEq κ] (a b : κ) (v : Int) : ∀ km : List (κ × Int), findG a km 0 = none → knownG (km ++ [(a, v)]) b = if b = a then v else knownG km b
  | [], _ => by rw [List.nil_append, knownG_cons]
  | (c, u) :: r, h => by
    unfold findG at h
    split at h
    · simp at h
    rename_i hne
    rw [findG_shift, Option.map_eq_none_iff] at h
    rw [List.cons_append, knownG_cons, knownG_snoc a b v r h, knownG_cons]
    by_cases hb : b = c
    · subst hb; rw [if_pos rfl, if_pos rfl, if_neg (Ne.symm hne)]
    · rw [if_neg hb, if_neg hb]
theorem knownG_set {κ : Type} [DecidableEq κ] (a b : κ) (v : Int) : ∀ (km : List (κ × Int)) (p : Nat × Int), findG a km 0 = some p → knownG (km.set p.1 (a, v)) b = if b = a then v else knownG km b
  | [], p, h => by simp [findG] at h
  | (c, u) :: r, p, h => by
    unfold findG at h
    split at h
    · rename_i he
      subst he
      simp only [Option.some.injEq] at h
      subst h
      rw [List.set_cons_zero, knownG_cons, knownG_cons]
      by_cases hb : b = a
      · rw [if_pos hb, if_pos hb]
      · rw [if_neg hb, if_neg hb, if_neg hb]
    · rename_i hne
      rw [findG_shift] at h
      simp only [Option.map_eq_some_iff] at h
      obtain ⟨q, h1, rfl⟩ := h
      rw [List.set_cons_succ, knownG_cons, knownG_set a b v r q h1, knownG_cons]
      by_cases hb : b = c
      · subst hb; rw [if_pos rfl, if_pos rfl, if_neg (Ne.symm hne)]
      · rw [if_neg hb, if_neg hb]
theorem findG_snoc {κ : Type} [DecidableEq κ] (a : κ) (v : Int) : ∀ km : List (κ × Int), findG a km 0 = none → findG a (km ++ [(a, v)]) 0 = some (km.length, v)
  | [], _ => by simp [findG]
  | (c, u) :: r, h => by
    unfold findG at h
    split at h
    · simp at h
    rename_i hne
    rw [findG_shift, Option.map_eq_none_iff] at h
    rw [List.cons_append]
    unfold findG
    rw [if_neg hne, findG_shift, findG_snoc a v r h]
    simp

theorem EntsG.len {κ : Type} {kv : κ → Value} : ∀ {km : List (κ × Int)} {es : List MapEntry}, EntsG kv km es → km.length = es.length
  | [], [], _ => rfl
  | [], _ :: _, h => h.elim
  | _ :: _, [], h => h.elim
  | _ :: _, _ :: _, h => by simp [EntsG.len h.2]
theorem EntsG.get {κ : Type} {kv : κ → Value} : ∀ {km : List (κ × Int)} {es : List MapEntry}, EntsG kv km es → ∀ (i : Nat) (h : i < km.length) (h' : i < es.length), es[i].key = kv km[i].1 ∧ es[i].val = .int .i64 km[i].2
  | [], [], _, i, h, _ => by simp at h
  | [], _ :: _, h, _, _, _ => h.elim
  | _ :: _, [], h, _, _, _ => h.elim
  | _ :: _, _ :: _, h, 0, _, _ => h.1
  | _ :: _, _ :: _, h, i + 1, h1, h2 => EntsG.get h.2 i (by simpa using h1) (by simpa using h2)
theorem EntsG.set {κ : Type} {kv : κ → Value} : ∀ {km : List (κ × Int)} {es : List MapEntry}, EntsG kv km es → ∀ (i : Nat) {e : κ × Int} {b : MapEntry}, b.key = kv e.1 → b.val = .int .i64 e.2 → EntsG kv (km.set i e) (es.set i b)
  | [], [], h, i, _, _, _, _ => by simpa using h
  | [], _ :: _, h, _, _, _, _, _ => h.elim
  | _ :: _, [], h, _, _, _, _, _ => h.elim
  | _ :: _, _ :: _, h, 0, _, _, hb, hc => ⟨⟨hb, hc⟩, h.2⟩
  | _ :: _, _ :: _, h, i + 1, _, _, hb, hc => ⟨h.1, EntsG.set h.2 i hb hc⟩
theorem EntsG.snoc {κ : Type} {kv : κ → Value} : ∀ {km : List (κ × Int)} {es : List MapEntry}, EntsG kv km es → ∀ {e : κ × Int} {b : MapEntry}, b.key = kv e.1 → b.val = .int .i64 e.2 → EntsG kv (km ++ [e]) (es ++ [b])
  | [], [], _, _, _, hb, hc => ⟨⟨hb, hc⟩, trivial⟩
  | [], _ :: _, h, _, _, _, _ => h.elim
  | _ :: _, [], h, _, _, _, _ => h.elim
  | _ :: _, _ :: _, h, _, _, hb, hc => ⟨h.1, EntsG.snoc h.2 hb hc⟩

theorem findIdx_bornG {l : List MapEntry} (hn : (l.map (·.born)).Nodup) {j : Nat} {e0 : MapEntry} (h : l[j]? = some e0) : l.findIdx? (fun e => ((e.born : Nat) : Int) == ((e0.born : Nat) : Int)) = some j := by
  induction l generalizing j with
  | nil => simp at h
  | cons a r ih =>
    simp only [List.map_cons, List.nodup_cons] at hn
    cases j with
    | zero =>
      simp only [List.getElem?_cons_zero, Option.some.injEq] at h
      subst h
      simp [List.findIdx?_cons]
    | succ j =>
      simp only [List.getElem?_cons_succ] at h
      have hne : a.born ≠ e0.born := fun e1 => hn.1 (List.mem_map.2 ⟨e0, List.mem_of_getElem? h, e1.symm⟩)
      have hb : (((a.born : Nat) : Int) == ((e0.born : Nat) : Int)) = false := by
        simp only [beq_eq_false_iff_ne, ne_eq, Int.natCast_inj]
        exact hne
      rw [List.findIdx?_cons, hb]
      simp [ih hn.2 h]
theorem modify_setG (es : Array MapEntry) (i : Nat) (h : i < es.size) (f : MapEntry → MapEntry) : (es.modify i f).toList = es.toList.set i (f es[i]) := by
  rw [Array.toList_modify]
  apply List.ext_getElem?
  intro j
  rw [List.getElem?_modify, List.getElem?_set]
  by_cases hi : i = j
  · subst hi; simp [h]
  · simp [hi]

section
variable {κ : Type} [DecidableEq κ] {P : Program} {kt vt mt : TypeId} {kv : κ → Value} {G : World → κ → Prop} {w : World} {r : Nat} {km : List (κ × Int)} {a : κ}

theorem run_lookupG (K : KeyOk P kt kv G) (hu : P.underlying mt = some (.map kt vt)) (hz : ∀ w, (zeroValue vt).run P w = .ok (.int .i64 0) w) (hm : MapG kv w r km) (ha : G w a) (hp : ∀ e ∈ km, G w e.1) :
    (Instr.lookup mt (.map (some r)) (kv a) false).run P w = .ok (.int .i64 (knownG km a)) w := by
  obtain ⟨es, clock, h1, h2, _⟩ := hm
  unfold Instr.lookup
  simp only [Sem.run_bind, run_underlying hu, Result.andThen_ok, MapKept.run_getObj_map h1, K.check, K.find w a km es.toList h2 ha hp, Sem.run_pure]
  unfold knownG
  cases hk : findG a km 0 with
  | none => simp [hz]
  | some p => simp

/-- An entry is taken: the map has it then; what is stored by its stamp is known of the key, all else as it was. -/
theorem run_entryG (K : KeyOk P kt kv G) (hu : P.underlying mt = some (.map kt vt)) (hz : ∀ w, (zeroValue vt).run P w = .ok (.int .i64 0) w) (hm : MapG kv w r km) (ha : G w a) (hp : ∀ e ∈ km, G w e.1) :
    ∃ (o1 : Obj) (v0 : Value) (st : Nat) (km1 : List (κ × Int)), (Instr.mapEntry mt (.map (some r)) (kv a)).run P w = .ok (.tuple #[v0, goInt st]) { w with heap := w.heap.setIfInBounds r o1 } ∧
      MapG kv { w with heap := w.heap.setIfInBounds r o1 } r km1 ∧ (∀ b, knownG km1 b = knownG km b) ∧ (∀ e ∈ km1, e.1 = a ∨ ∃ e' ∈ km, e'.1 = e.1) ∧
      ∀ (w2 : World) (x : Int), w2.heap[r]? = some o1 → ∃ o2 km2, (Instr.entryStore mt (.map (some r)) (goInt st) (.int .i64 x)).run P w2 = .ok () { w2 with heap := w2.heap.setIfInBounds r o2 } ∧
        MapG kv { w2 with heap := w2.heap.setIfInBounds r o2 } r km2 ∧ (∀ b, knownG km2 b = if b = a then x else knownG km b) ∧ (∀ e ∈ km2, e.1 = a ∨ ∃ e' ∈ km, e'.1 = e.1) := by
  have hlt := hm.lt
  obtain ⟨es, clock, h1, h2, h3, h4⟩ := hm
  have hl := h2.len
  have hstore : ∀ (es1 : Array MapEntry) (clock1 : Nat) (km1 : List (κ × Int)) (i : Nat) (v : Int) (hi : i < es1.size), EntsG kv km1 es1.toList → (∀ x ∈ es1.toList, x.born < clock1) → (es1.toList.map (·.born)).Nodup → findG a km1 0 = some (i, v) →
      (∀ b, knownG km1 b = knownG km b) → (∀ e ∈ km1, e.1 = a ∨ ∃ e' ∈ km, e'.1 = e.1) → ∀ (w2 : World) (x : Int), w2.heap[r]? = some (.map es1 clock1) → ∃ o2 km2, (Instr.entryStore mt (.map (some r)) (goInt es1[i].born) (.int .i64 x)).run P w2 = .ok () { w2 with heap := w2.heap.setIfInBounds r o2 } ∧
        MapG kv { w2 with heap := w2.heap.setIfInBounds r o2 } r km2 ∧ (∀ b, knownG km2 b = if b = a then x else knownG km b) ∧ (∀ e ∈ km2, e.1 = a ∨ ∃ e' ∈ km, e'.1 = e.1) := by
    intro es1 clock1 km1 i v hi q1 q2 q3 q4 q5 q6 w2 x hw2
    have hlt2 : r < w2.heap.size := by
      by_cases hx : r < w2.heap.size
      · exact hx
      · rw [Array.getElem?_eq_none (by omega)] at hw2; simp at hw2
    obtain ⟨g1, g2⟩ := findG_some q4
    simp only at g1 g2
    have hidx : es1.findIdx? (fun e => ((e.born : Nat) : Int) == ((es1[i].born : Nat) : Int)) = some i := by
      have := findIdx_bornG q3 (j := i) (e0 := es1[i]) (by simp [hi])
      cases es1; simpa using this
    have hml := modify_setG es1 i hi (fun e => { e with val := .int .i64 x })
    have hget := (q1.get i g1 (by simpa using hi)).1
    refine ⟨.map (es1.modify i fun e => { e with val := .int .i64 x }) clock1, km1.set i (a, x), ?_, ⟨_, _, by simp [hlt2]; exact ⟨rfl, rfl⟩, ?_, ?_, ?_⟩, fun b => ?_, fun e he => ?_⟩
    · simp [Instr.entryStore, MapKept.run_getObj_map hw2, asInt, asIntOf, goInt, hidx, MapKept.run_setObj_map _ hw2, Result.andThen]
    · rw [hml]
      refine q1.set i ?_ rfl
      rw [g2] at hget
      simpa using hget
    · rw [hml]
      intro y hy
      rcases List.mem_or_eq_of_mem_set hy with hy | rfl
      · exact q2 y hy
      · exact q2 es1[i] (by simp)
    · rw [hml]
      have : (es1.toList.set i { es1[i] with val := .int .i64 x }).map (·.born) = es1.toList.map (·.born) := by
        rw [List.map_set]
        refine List.ext_getElem? (fun j => ?_)
        rw [List.getElem?_set]
        by_cases hj : i = j
        · subst hj; simp [hi]
        · simp [hj]
      rw [this]; exact q3
    · rw [knownG_set a b x km1 (i, v) q4, q5 b]
    · rcases List.mem_or_eq_of_mem_set he with he | rfl
      · exact q6 e he
      · exact Or.inl rfl
  cases hk : findG a km 0 with
  | none =>
    have e1 : EntsG kv (km ++ [(a, 0)]) (es.push { key := kv a, val := .int .i64 0, born := clock }).toList := by
      rw [Array.toList_push]; exact h2.snoc rfl rfl
    have e2 : ∀ x ∈ (es.push { key := kv a, val := .int .i64 0, born := clock }).toList, x.born < clock + 1 := by
      intro x hx
      rw [Array.toList_push, List.mem_append] at hx
      rcases hx with hx | hx
      · have := h3 x hx; omega
      · simp only [List.mem_singleton] at hx; subst hx; exact Nat.lt_succ_self _
    have e3 : ((es.push { key := kv a, val := .int .i64 0, born := clock }).toList.map (·.born)).Nodup := by
      simp only [Array.toList_push, List.map_append, List.map_cons, List.map_nil]
      refine List.nodup_append.2 ⟨h4, by simp, fun a ha c hc e1 => ?_⟩
      simp only [List.mem_singleton] at hc
      obtain ⟨x, hx, rfl⟩ := List.mem_map.1 ha
      have := h3 x hx
      omega
    have e5 : ∀ b, knownG (km ++ [(a, 0)]) b = knownG km b := fun b => by
      rw [knownG_snoc a b 0 km hk]
      split
      · rename_i h; subst h; unfold knownG; rw [hk]; rfl
      · rfl
    have e6 : ∀ e ∈ km ++ [(a, (0 : Int))], e.1 = a ∨ ∃ e' ∈ km, e'.1 = e.1 := fun e he => by
      rcases List.mem_append.1 he with he | he
      · exact Or.inr ⟨e, he, rfl⟩
      · simp only [List.mem_singleton] at he; subst he; exact Or.inl rfl
    have hsz : es.size < (es.push { key := kv a, val := .int .i64 0, born := clock }).size := by simp
    have hst := hstore _ (clock + 1) (km ++ [(a, 0)]) es.size 0 hsz e1 e2 e3 (by rw [findG_snoc a 0 km hk, hl, Array.length_toList]) e5 e6
    refine ⟨.map (es.push { key := kv a, val := .int .i64 0, born := clock }) (clock + 1), .int .i64 0, clock, km ++ [(a, 0)], ?_, ⟨_, _, by simp [hlt] <;> exact ⟨rfl, rfl⟩, e1, e2, e3⟩, e5, e6, ?_⟩
    · unfold Instr.mapEntry
      simp only [Sem.run_bind, run_underlying hu, Result.andThen_ok, MapKept.run_getObj_map h1, K.check, K.find w a km es.toList h2 ha hp, hk, Option.map_none, hz, MapKept.run_setObj_map _ h1, Sem.run_pure]
    · intro w2 x hw2
      have := hst w2 x hw2
      simpa using this
  | some p =>
    obtain ⟨g1, g2⟩ := findG_some hk
    have hpe : p.1 < es.size := by rw [← Array.length_toList]; omega
    have hkey : es[p.1].key = kv a := by
      have := (h2.get p.1 g1 (by rw [Array.length_toList]; exact hpe)).1
      rw [g2] at this
      simpa using this
    have hsame : es.modify p.1 (fun e => { e with key := kv a }) = es := by
      apply Array.ext'
      rw [modify_setG es p.1 hpe]
      have : ({ es[p.1] with key := kv a } : MapEntry) = es[p.1] := by rw [← hkey]
      rw [this]
      apply List.ext_getElem?
      intro j
      rw [List.getElem?_set]
      by_cases hi : p.1 = j
      · subst hi; simp [hpe]
      · simp [hi]
    have hst' : (Instr.keyThatStays (((es[p.1]?).map (·.key)).getD (kv a)) (kv a)).run P w = .ok (kv a) w := by
      unfold Instr.keyThatStays
      rw [Array.getElem?_eq_getElem hpe, Option.map_some, Option.getD_some, hkey, K.bits, if_pos rfl]
      rfl
    have e6 : ∀ e ∈ km, e.1 = a ∨ ∃ e' ∈ km, e'.1 = e.1 := fun e he => Or.inr ⟨e, he, rfl⟩
    refine ⟨.map es clock, .int .i64 p.2, es[p.1].born, km, ?_, ⟨es, clock, by simp [hlt], h2, h3, h4⟩, fun _ => rfl, e6, hstore es clock km p.1 p.2 hpe h2 h3 h4 (by rw [hk]) (fun _ => rfl) e6⟩
    unfold Instr.mapEntry
    simp only [Sem.run_bind, run_underlying hu, Result.andThen_ok, MapKept.run_getObj_map h1, K.check, K.find w a km es.toList h2 ha hp, hk, Option.map_some, hst', hsame, MapKept.run_setObj_map _ h1, Sem.run_pure]
    rw [Array.getElem?_eq_getElem hpe]
    rfl
end

end Go.Proofs.YtegnalfkdponhaaDoor
