
/-
  DERIVED. THE WALKS OF (*l1Rd).of, (*l1Rd).one, spec.l1Open.
-/
import Derived.Test.YtkogdlncjciboaaDoorDraw
namespace Go.Proofs.YtkogdlncjciboaaDoor
open Go.RowKit
set_option linter.unusedVariables false
set_option linter.unusedSimpArgs false

theorem Turns.cell {bs : List Nat} {w w' : World} (h : Turns bs w w') {p : Addr} {v : Value} (hp : p.block ∉ bs) (hc : w.cell? p = some v) : w'.cell? p = some v := by
  rw [World.cell?_of_block (w := w) (h.block p.block (cell_lt hc) hp)]
  exact hc

set_option maxHeartbeats 1000000 in
theorem of_any (l : List ByteArray) (lb cap rb : Nat) (a : Option Addr) (n c p : Nat) (w : World) (hl1 : 1 ≤ l.length) (hl2 : l.length ≤ 1000) (hp : p ≤ 1000000) (hR : RdAt w rb a n c p) (hne : lb ≠ rb)
    (hc : ∀ (i : Nat) (h : i < l.length), w.cell? ⟨lb, i, none⟩ = some (.string l[i])) :
    Calls Tryd.prog 25 #[.pointer (some ⟨rb, 0, none⟩), .slice (some ⟨lb, 0, none⟩) l.length cap] w fun e w' =>
      ∃ (i : Nat) (h : i < l.length), e = .returned (.string l[i]) ∧ RdAt w' rb a n c (p + 1) ∧ Turns [rb] w w' := by
  have HR : Hid (RdAt w rb a n c p) := hR
  have HC : Hid (∀ (i : Nat) (h : i < l.length), w.cell? ⟨lb, i, none⟩ = some (.string l[i])) := hc
  clear hR hc
  go_enter Tryd.func25, Tryd.ntmps25
  go_wp2_with fail
  refine (pick_any l.length rb a n c p _ hl1 (by omega) hp HR.out).mono ?_
  rintro e w1 ⟨x, hx, rfl, hR1, hT1⟩
  have hxi : (x : Int) < (l.length : Int) := by omega
  have q : w1.cell? ⟨lb, x, none⟩ = some (.string l[x]) := hT1.cell (by simp; exact hne) (HC.out x hx)
  have HR1 : Hid (RdAt w1 rb a n c (p + 1)) := hR1
  have HT1 : Hid (Turns [rb] w w1) := hT1
  clear hR1 hT1
  go_wp2_with fail
  go_ret
  exact ⟨x, hx, rfl, HR1.out, HT1.out⟩

/-- What is told of a code that came in: bytes, from its place on. -/
def CodeAt (w : World) (a : Option Addr) (len : Nat) : Prop := ∀ i, i < len → ∃ b off z, a = some ⟨b, off, none⟩ ∧ z < 256 ∧ w.cell? ⟨b, off + i, none⟩ = some (.int .u8 ((z : Nat) : Int))

theorem RdAt.made {w : World} {a : Option Addr} {len n c : Nat} (h : CodeAt w a len) (hn : n ≤ len) (h2 : n ≤ 2000) : RdAt (w.alloc (.cells #[.slice a n c, .int .i64 0] 69)) w.heap.size a n c 0 := by
  refine ⟨Owns.made w _ _, h2, fun i hi => ?_⟩
  obtain ⟨b, off, z, h3, h4, h5⟩ := h i (by omega)
  have hlt := cell_lt h5
  refine ⟨b, off, z, h3, ?_, h4, ?_⟩
  · simp at hlt; omega
  · exact (World.cell?_alloc_lt _ _ _ hlt).trans h5

def OpenC (a : Option Addr) (cap : Nat) (w : World) (e : Ending) (w' : World) : Prop := ∃ n, e = .returned (.pointer (some ⟨w.heap.size, 0, none⟩)) ∧ RdAt w' w.heap.size a n cap 0 ∧ Below w.heap.size w w'

set_option maxHeartbeats 1000000 in
theorem l1Open_any (a : Option Addr) (len cap : Nat) (w : World) (hl : len ≤ 1048576) (hcap : len ≤ cap) (hc : CodeAt w a len) :
    Calls Tryd.prog 24 #[.slice a len cap] w (OpenC a cap w) := by
  by_cases hbig : 2000 < len
  · have hb : (2000 : Int) < (len : Int) := by omega
    have HC : Hid (CodeAt w a len) := hc
    obtain ⟨b, off, _, rfl, _, _⟩ := hc 0 (by omega)
    have hci : (len : Int) ≤ (cap : Int) := by omega
    clear hc
    go_enter Tryd.func24, Tryd.ntmps24
    go_wp2_with fail
    go_ret
    refine ⟨2000, rfl, ?_, ?_⟩
    · exact RdAt.made HC.out (by omega) (by omega)
    · exact (Below.refl _ _).alloc (Nat.le_refl _) _
  · have hb : ¬ (2000 : Int) < (len : Int) := by omega
    have HC : Hid (CodeAt w a len) := hc
    clear hc
    go_enter Tryd.func24, Tryd.ntmps24
    go_wp2_with fail
    go_ret
    refine ⟨len, rfl, ?_, ?_⟩
    · exact RdAt.made HC.out (by omega) (by omega)
    · exact (Below.refl _ _).alloc (Nat.le_refl _) _

end Go.Proofs.YtkogdlncjciboaaDoor
