
/-
  DERIVED. spec.DrawValueOk, and laws.FnValueOk: the walks out of the contracts.
-/
import Derived.Test.YtdaohfeajicamaaDrawA
import Derived.Test.YtdaohfeajicamaaVlOkC
import Derived.Test.YtdaohfeajicamaaDeepW
namespace Go.Proofs.Ytdaohfeajicamaa
open Go.RowKit
set_option linter.unusedVariables false
set_option linter.unusedSimpArgs false

/-! ### Plain facts -/
theorem okB_monoV {words : Bool} : ∀ (d : Nat) (t : Vl), okB words d t = true → okB words (d + 1) t = true
  | 0, t, h => by simp [okB] at h
  | d + 1, t, h => by
    rw [okB_succ] at h ⊢
    simp only [Bool.and_eq_true, List.all_eq_true] at h ⊢
    exact ⟨h.1, fun x hx => okB_monoV d x (h.2 x hx)⟩
theorem ok_depV {words : Bool} {dep : Vl → Nat} (hd : IsDep dep) : ∀ (d : Nat) (t : Vl), okB words d t = true → dep t ≤ d
  | 0, t, h => by simp [okB] at h
  | d + 1, t, h => by
    rw [okB_succ] at h
    simp only [Bool.and_eq_true, List.all_eq_true] at h
    rw [hd t]
    have := maxL_le (d := dep) (n := d) (fun x hx => ok_depV hd d x (h.2 x hx))
    omega
theorem ok_lessV {words : Bool} {dep : Vl → Nat} (hd : IsDep dep) : ∀ (d e : Nat) (t : Vl), okB words e t = true → dep t ≤ d → okB words d t = true
  | 0, e, t, h, hl => by rw [hd t] at hl; omega
  | d + 1, 0, t, h, hl => by simp [okB] at h
  | d + 1, e + 1, t, h, hl => by
    rw [okB_succ] at h ⊢
    simp only [Bool.and_eq_true, List.all_eq_true] at h ⊢
    refine ⟨h.1, fun x hx => ok_lessV hd d e x (h.2 x hx) ?_⟩
    have := dep_lt hd hx
    omega
def listOf (t : Vl) : Vl := ⟨4, 0, ⟨#[]⟩, [t], []⟩
theorem ok_listV (t : Vl) : okB false 6 (listOf t) = okB false 5 t := by
  have h1 : okB false 6 (listOf t) = (plainB 4 0 ⟨#[]⟩ 1 0 && (false || decide ((4 : Int) ≤ 5)) && onceB [] [] && [t].all (okB false 5)) := rfl
  have h2 : plainB 4 0 ⟨#[]⟩ 1 0 = true := by
    have h3 : (⟨#[]⟩ : ByteArray).toList.isEmpty = true := by rw [ByteArray.toList_eq]; rfl
    simp [plainB, h3]
  rw [h1, h2]
  simp [onceB]
theorem dep_listV {dep : Vl → Nat} (hd : IsDep dep) (t : Vl) : dep (listOf t) = dep t + 1 := by
  rw [hd]
  simp [listOf, maxL]
theorem ok_childV {dep : Vl → Nat} {t x : Vl} (h : okB false 6 t = true) (hx : x ∈ t.list) : okB false 6 x = true := by
  rw [okB_succ] at h
  simp only [Bool.and_eq_true, List.all_eq_true] at h
  exact okB_monoV 5 x (h.2 x hx)

theorem VlQ.depV {dep : Vl → Nat} (hd : IsDep dep) {w : World} {base : Nat} : ∀ (k : Nat) (t : Vl) (cs : List Value), VlQ w base k t cs → dep t ≤ k
  | 0, _, _, h => h.elim
  | k + 1, t, cs, h => by
    obtain ⟨vl, vn, _, _, _, _, hrow, _, _⟩ := h
    rw [hd t]
    have := maxL_le (d := dep) (n := k) (l := t.list) (fun x hx => by
      obtain ⟨i, hi, rfl⟩ := List.getElem_of_mem hx
      obtain ⟨a, c, _, _, hr⟩ := Row.len hrow
      obtain ⟨b, off, _, _, hc⟩ := hr (List.ne_nil_of_mem hx)
      obtain ⟨cs', _, _, h3⟩ := hc i hi
      exact VlQ.depV hd k _ _ h3)
    omega
theorem VlQ.pin {w : World} {base : Nat} : ∀ (k : Nat) (t : Vl) (x y z vl vn : Value), VlQ w base k t [x, y, z, vl, vn] → PIn w w.heap.size k t.list vl
  | 0, _, _, _, _, _, _, h => h.elim
  | k + 1, t, x, y, z, vl, vn, h => by
    obtain ⟨vl', vn', e, _, _, _, hrow, _, hpl⟩ := h
    simp only [List.cons.injEq, and_true] at e
    obtain ⟨_, _, _, rfl, rfl⟩ := e
    obtain ⟨a, c, hv, h80, hr⟩ := Row.len hrow
    by_cases hne : t.list = []
    · exact Or.inl ⟨hne, a, c, by rw [hv, hne]; rfl⟩
    · obtain ⟨b, off, rfl, _, hc⟩ := hr hne
      obtain ⟨a', n', c', hv', cc, ee, hb⟩ := hpl hne
      rw [hv] at hv'
      simp only [Value.slice.injEq, Option.some.injEq] at hv'
      obtain ⟨rfl, _, _⟩ := hv'
      have hlt : b < w.heap.size := by
        by_cases hx : b < w.heap.size
        · exact hx
        · simp only at hb; rw [Array.getElem?_eq_none (by omega)] at hb; simp at hb
      refine Or.inr ⟨b, off, c, hv, hlt, ⟨cc, ee, hb⟩, h80, fun i hi => ?_⟩
      obtain ⟨cs, hl, hcs, hq⟩ := hc i hi
      obtain ⟨p, q, p', q', rfl⟩ := (VlQ.read _ _ _ hq).cells
      refine ⟨_, ?_, VlQ.pin k _ _ _ _ _ _ hq⟩
      exact hcs 3 (by simp)
/-- A list of a value alone. -/
theorem VlQ.wrap {w : World} {base k nb : Nat} {t : Vl} {x0 x1 x2 x3 x4 : Value} {e : TypeId} (h : VlQ w base k t [x0, x1, x2, x3, x4]) (hO : Owns w nb #[x0, x1, x2, x3, x4] e) (hb : base ≤ nb) :
    VlQ w base (k + 1) (listOf t) [.int .i64 4, .int .i64 0, .string ⟨#[]⟩, .slice (some ⟨nb, 0, none⟩) 1 1, .slice none 0 0] := by
  refine ⟨_, _, rfl, (show I64 (4 : Int) from ⟨by decide, by decide⟩), (show I64 (0 : Int) from ⟨by decide, by decide⟩), (show (⟨#[]⟩ : ByteArray).size ≤ _ from by decide), Or.inr ⟨⟨nb, 0, none⟩, 1, rfl, Nat.le_refl _, by unfold maxLen; omega, by simp [listOf], fun i hi => ⟨hb, rfl, [x0, x1, x2, x3, x4], rfl, fun q hq => ?_, ?_⟩⟩, Or.inl ⟨rfl, rfl⟩, fun _ => ⟨_, _, _, rfl, _, _, hO⟩⟩
  · obtain rfl : i = 0 := by simpa [listOf] using hi
    show w.cell? ⟨nb, 0 + 0 * 5 + q, none⟩ = _
    rw [hO.cell, Nat.zero_mul, Nat.zero_add]
    simp only [List.getElem?_toArray]
  · obtain rfl : i = 0 := by simpa [listOf] using hi
    exact h

/-! ### The draw -/
theorem CodeAt.belowV {w w' : World} {a : Option Addr} {n : Nat} (h : CodeAt w a n) (hb : Below w.heap.size w w') : CodeAt w' a n := fun i hi => by
  obtain ⟨b, off, z, h1, h2, h3⟩ := h i hi
  exact ⟨b, off, z, h1, h2, cell_on hb h3⟩

end Go.Proofs.Ytdaohfeajicamaa

namespace Go.Proofs.Ytdaohfeajicamaa
open Go.RowKit
set_option linter.unusedVariables false
set_option linter.unusedSimpArgs false

theorem five_ofV {W : World} {b : Nat} {x0 x1 x2 x3 x4 : Value} (h : ∀ o, W.cell? ⟨b, o, none⟩ = #[x0, x1, x2, x3, x4][o]?) :
    W.cell? ⟨b, 0, none⟩ = some x0 ∧ W.cell? ⟨b, 1, none⟩ = some x1 ∧ W.cell? ⟨b, 2, none⟩ = some x2 ∧ W.cell? ⟨b, 3, none⟩ = some x3 ∧ W.cell? ⟨b, 4, none⟩ = some x4 := ⟨h 0, h 1, h 2, h 3, h 4⟩
theorem keeps_belowV {w W W' : World} (h : Keeps 0 w W) (hb : Below W.heap.size W W') : Keeps 0 w W' := h.trans (Keeps.of_below hb (Nat.le_refl _) 0)
theorem owns_keeps {w W : World} {b : Nat} {c : Array Value} {e : TypeId} (h : Owns w b c e) (hk : Keeps 0 w W) : Owns W b c e := by
  have hl := h.lt
  unfold Owns at h ⊢
  rw [hk.block b (Nat.zero_le _) hl]; exact h

/-- impl.ValueDeep, of a value that was drawn. -/
theorem deepQ (dep sz : Vl → Nat) (hd : IsDep dep) (hsz : IsSz sz) (k : Nat) (t : Vl) (x : Option Addr) (xc : Nat) (y : Option Addr) (yc : Nat) (w : World) (hk : k ≤ 100) (h : VlQ w 0 k t [.int .i64 t.kind, .int .i64 t.num, .string t.text, .slice x t.list.length xc, .slice y t.names.length yc]) :
    Calls Try.prog 22 #[.agg #[.int .i64 t.kind, .int .i64 t.num, .string t.text, .slice x t.list.length xc, .slice y t.names.length yc]] w fun e w' => e = .returned (.int .i64 (dep t : Int)) ∧ Below w.heap.size w w' :=
  implDeep_any dep sz hd hsz t _ _ _ _ _ k w (VlQ.pin _ _ _ _ _ _ _ h) (by have := VlQ.depV hd _ _ _ h; omega) ⟨_, _, _, _, rfl, rfl⟩ rfl rfl rfl

/-- impl.ValueDeep, impl.ValueOk, of a list of a value alone. -/
theorem deepX (dep sz : Vl → Nat) (hd : IsDep dep) (hsz : IsSz sz) (t : Vl) (D nb : Nat) (w : World) (hD : dep t = D) (h : VlQ w 0 21 (listOf t) [.int .i64 4, .int .i64 0, .string ⟨#[]⟩, .slice (some ⟨nb, 0, none⟩) 1 1, .slice none 0 0]) :
    Calls Try.prog 22 #[.agg #[.int .i64 4, .int .i64 0, .string ⟨#[]⟩, .slice (some ⟨nb, 0, none⟩) 1 1, .slice none 0 0]] w fun e w' => e = .returned (.int .i64 ((D : Int) + 1)) ∧ Below w.heap.size w w' := by
  refine (deepQ dep sz hd hsz 21 (listOf t) (some ⟨nb, 0, none⟩) 1 none 0 w (by omega) h).mono ?_
  rintro e w' ⟨rfl, hb⟩
  refine ⟨?_, hb⟩
  rw [dep_listV hd, hD]
  rfl
theorem okX (t : Vl) (nb : Nat) (w : World) (b : Bool) (hb : okB false 5 t = b) (h : VlQ w 0 21 (listOf t) [.int .i64 4, .int .i64 0, .string ⟨#[]⟩, .slice (some ⟨nb, 0, none⟩) 1 1, .slice none 0 0]) :
    Calls Try.prog 20 #[.agg #[.int .i64 4, .int .i64 0, .string ⟨#[]⟩, .slice (some ⟨nb, 0, none⟩) 1 1, .slice none 0 0]] w fun e w' => e = .returned (.bool b) ∧ Below w.heap.size w w' := by
  refine (implValueOk_any 21 (listOf t) (.slice (some ⟨nb, 0, none⟩) 1 1) (.slice none 0 0) w (VlQ.read _ _ _ h)).mono ?_
  rintro e w' ⟨rfl, hb'⟩
  refine ⟨?_, hb'⟩
  rw [ok_listV, hb]

end Go.Proofs.Ytdaohfeajicamaa
