
/-
  DERIVED. NODES IN MEMORY: no Go text.
-/
import Derived.Test.YthhnhigaoncakaaVlOwn
import Derived.Test.YthhnhigaoncakaaVlInfo
namespace Go.Proofs.Ythhnhigaoncakaa
open Go.RowKit
set_option linter.unusedVariables false
set_option linter.unusedSimpArgs false

structure Nd where
  id : Int
  type : ByteArray
  cells : Vl

/-- A node, its cells at most k deep, in seven cells. -/
def NdR (w : World) (base k : Nat) (x : Nd) (cs : List Value) : Prop :=
  ∃ vl vn, cs = [.int .i64 x.id, .string x.type, .int .i64 x.cells.kind, .int .i64 x.cells.num, .string x.cells.text, vl, vn] ∧ I64 x.id ∧ x.type.size ≤ 140737488351232 ∧
    VlR w base k x.cells [.int .i64 x.cells.kind, .int .i64 x.cells.num, .string x.cells.text, vl, vn]
def NdRow (w : World) (base k : Nat) (l : List Nd) (v : Value) : Prop := Row w base 7 104 (NdR w base k) l v

theorem NdR.keeps {base : Nat} {w w' : World} (hk : Keeps base w w') (k : Nat) (x : Nd) (cs : List Value) (h : NdR w base k x cs) : NdR w' base k x cs := by
  obtain ⟨vl, vn, h1, h2, h3, h4⟩ := h
  exact ⟨vl, vn, h1, h2, h3, VlR.keeps hk _ _ _ h4⟩
theorem NdR.base {base base' : Nat} {w : World} (hb : base' ≤ base) (k : Nat) (x : Nd) (cs : List Value) (h : NdR w base k x cs) : NdR w base' k x cs := by
  obtain ⟨vl, vn, h1, h2, h3, h4⟩ := h
  exact ⟨vl, vn, h1, h2, h3, VlR.base hb _ _ _ h4⟩
theorem NdR.le {w : World} {base k k' : Nat} (h : k ≤ k') {x : Nd} {cs : List Value} (hx : NdR w base k x cs) : NdR w base k' x cs := by
  obtain ⟨vl, vn, h1, h2, h3, h4⟩ := hx
  exact ⟨vl, vn, h1, h2, h3, VlR.le h h4⟩
theorem NdR.cells {w : World} {base k : Nat} {x : Nd} {cs : List Value} (h : NdR w base k x cs) :
    ∃ a c a' c', cs = [.int .i64 x.id, .string x.type, .int .i64 x.cells.kind, .int .i64 x.cells.num, .string x.cells.text, .slice a x.cells.list.length c, .slice a' x.cells.names.length c'] := by
  obtain ⟨vl, vn, h1, _, _, h4⟩ := h
  obtain ⟨a, c, a', c', h5⟩ := h4.cells
  simp only [List.cons.injEq, true_and, and_true] at h5
  obtain ⟨rfl, rfl⟩ := h5
  exact ⟨a, c, a', c', h1⟩
theorem NdRow.keeps {base k : Nat} {w w' : World} {l : List Nd} {v : Value} (hk : Keeps base w w') (h : NdRow w base k l v) : NdRow w' base k l v := Row.keeps hk (NdR.keeps hk k) h
theorem NdRow.base {base base' k : Nat} {w : World} {l : List Nd} {v : Value} (hb : base' ≤ base) (h : NdRow w base k l v) : NdRow w base' k l v := Row.base hb (NdR.base hb k) h

theorem CellsAt.seven {w : World} {b off : Nat} {x y z u v s t : Value} (h : CellsAt w b off [x, y, z, u, v, s, t]) :
    w.cell? ⟨b, off, none⟩ = some x ∧ w.cell? ⟨b, off + 1, none⟩ = some y ∧ w.cell? ⟨b, off + 2, none⟩ = some z ∧ w.cell? ⟨b, off + 3, none⟩ = some u ∧ w.cell? ⟨b, off + 4, none⟩ = some v ∧ w.cell? ⟨b, off + 5, none⟩ = some s ∧ w.cell? ⟨b, off + 6, none⟩ = some t :=
  ⟨h 0 (by simp), h 1 (by simp), h 2 (by simp), h 3 (by simp), h 4 (by simp), h 5 (by simp), h 6 (by simp)⟩

/-- A node that owns its memory, all its blocks from lo up to hi. -/
def NdO (w : World) (k lo hi : Nat) (x : Nd) (cs : List Value) : Prop :=
  ∃ vl vn, cs = [.int .i64 x.id, .string x.type, .int .i64 x.cells.kind, .int .i64 x.cells.num, .string x.cells.text, vl, vn] ∧ I64 x.id ∧ x.type.size ≤ 140737488351232 ∧
    VlO w k lo hi x.cells [.int .i64 x.cells.kind, .int .i64 x.cells.num, .string x.cells.text, vl, vn]
theorem NdO.same {w w' : World} {k lo hi : Nat} {x : Nd} {cs : List Value} (hs : ∀ b, lo ≤ b → b < hi → w'.heap[b]? = w.heap[b]?) (h : NdO w k lo hi x cs) : NdO w' k lo hi x cs := by
  obtain ⟨vl, vn, h1, h2, h3, h4⟩ := h
  exact ⟨vl, vn, h1, h2, h3, VlO.same _ _ _ _ _ hs h4⟩
theorem NdO.wide {w : World} {k lo hi lo' hi' : Nat} (hl : lo' ≤ lo) (hh : hi ≤ hi') {x : Nd} {cs : List Value} (h : NdO w k lo hi x cs) : NdO w k lo' hi' x cs := by
  obtain ⟨vl, vn, h1, h2, h3, h4⟩ := h
  exact ⟨vl, vn, h1, h2, h3, VlO.wide hl hh _ _ _ h4⟩
theorem NdO.read {w : World} {k lo hi : Nat} {x : Nd} {cs : List Value} (h : NdO w k lo hi x cs) : NdR w lo k x cs := by
  obtain ⟨vl, vn, h1, h2, h3, h4⟩ := h
  exact ⟨vl, vn, h1, h2, h3, VlO.read _ _ _ _ _ h4⟩
/-- Nodes in a block of their own, each with blocks of its own. -/
def NdOwn (w : World) (k q0 q1 : Nat) (l : List Nd) (v : Value) : Prop := OwnRow w 44 7 104 (NdO w k) q0 q1 l v
theorem NdOwn.read {w : World} {k q0 q1 base : Nat} {l : List Nd} {v : Value} (h : NdOwn w k q0 q1 l v) (hb : ∀ b, At v b → base ≤ b) (hq : base ≤ q0) : NdRow w base k l v :=
  OwnRow.row h (by omega) hb (fun a b x cs h1 h2 hx => NdR.base (by omega) _ _ _ hx.read)

theorem info_impl_Node : ∃ i, Try.prog.info? 44 = some i ∧ i.zero = some (.agg #[.int .i64 0, .string ByteArray.empty, .int .i64 0, .int .i64 0, .string ByteArray.empty, .slice none 0 0, .slice none 0 0]) ∧ i.size = 7 ∧ i.bytes = 104 := by
  have h : (Try.prog.info? 44).map (fun i => (i.zero, i.size, i.bytes)) = some (some (.agg #[.int .i64 0, .string ByteArray.empty, .int .i64 0, .int .i64 0, .string ByteArray.empty, .slice none 0 0, .slice none 0 0]), 7, 104) := by kernel_rfl
  obtain ⟨i, h1, h2⟩ := Option.map_eq_some_iff.1 h
  simp only [Prod.mk.injEq] at h2
  exact ⟨i, h1, h2.1, h2.2.1, h2.2.2⟩

end Go.Proofs.Ythhnhigaoncakaa
