
/-
  DERIVED. THE WALKS OF spec.TreeGet, impl.TreeGet.
-/
import Derived.Test.YtdaohfeajicamaaFmValT
import Derived.Test.YtdaohfeajicamaaVlCopyW
import Derived.Test.YtdaohfeajicamaaFmIn
import Derived.Test.YtdaohfeajicamaaVlOkC
namespace Go.Proofs.Ytdaohfeajicamaa
open Go.RowKit
set_option linter.unusedVariables false
set_option linter.unusedSimpArgs false

theorem val_fm : ∀ k : Nat, ValC k
  | 0 => fun _ _ _ _ h _ => h.elim
  | k + 1 => val_step k (valL_step k (val_fm k)) (valT_step k (val_fm k))
theorem val_all (k : Nat) (t : Vl) (T : TypeId) (x : Value) (w : World) (hR : FmR w 0 k t (.iface T x)) (ho : okB false k t = true) : Calls Try.prog (mth T) #[x] w (ValP k t w) := val_fm k t T x w hR (ok_fm _ _ ho)

def zeroV : Vl := ⟨0, 0, ByteArray.empty, [], []⟩
def vlOf (o : Option Vl) : Vl := match o with | some x => x | none => zeroV
/-- What TreeGet answers. -/
def treeG (t : Vl) (s : ByteArray) : Option Vl := if okB false 6 t then treeO t s else none

theorem zero_read (w : World) (base k : Nat) : VlR w base (k + 1) zeroV [.int .i64 0, .int .i64 0, .string ByteArray.empty, .slice none 0 0, .slice none 0 0] :=
  ⟨_, _, rfl, ⟨by decide, by decide⟩, ⟨by decide, by decide⟩, by simp [zeroV], Or.inl ⟨rfl, rfl⟩, Or.inl ⟨rfl, rfl⟩⟩

theorem zero_readQ (w : World) (base k : Nat) : VlQ w base (k + 1) zeroV [.int .i64 0, .int .i64 0, .string ByteArray.empty, .slice none 0 0, .slice none 0 0] :=
  ⟨_, _, rfl, ⟨by decide, by decide⟩, ⟨by decide, by decide⟩, by decide, Or.inl ⟨rfl, rfl⟩, Or.inl ⟨rfl, rfl⟩, fun h => absurd rfl h⟩
theorem ok_names_le {t : Vl} (h : okB false 6 t = true) : t.names.length ≤ t.list.length := by
  by_cases h5 : t.kind = 5
  · rw [ok_k5 _ _ h5, Bool.and_eq_true] at h
    have h1 := h.2
    simp only [treeB, Bool.and_eq_true, decide_eq_true_eq] at h1
    omega
  · have hp : partsB t.kind t.num t.text t.list.length t.names.length = true := by
      cases hp : partsB t.kind t.num t.text t.list.length t.names.length
      · rw [ok_parts false 5 hp] at h; simp at h
      · rfl
    have := parts_no_names hp h5
    omega

theorem okB_mono {words : Bool} : ∀ (d : Nat) (t : Vl), okB words d t = true → okB words (d + 1) t = true
  | 0, t, h => by simp [okB] at h
  | d + 1, t, h => by
    rw [okB_succ] at h ⊢
    simp only [Bool.and_eq_true, List.all_eq_true] at h ⊢
    exact ⟨h.1, fun x hx => okB_mono d x (h.2 x hx)⟩
theorem okB_le {words : Bool} {d e : Nat} (h : d ≤ e) {t : Vl} (ht : okB words d t = true) : okB words e t = true := by
  induction h with
  | refl => exact ht
  | step _ ih => exact okB_mono _ _ ih
theorem findL_mem : ∀ (ns : List ByteArray) (vs : List Vl) (s : ByteArray) (x : Vl), findL ns vs s = some x → x ∈ vs
  | [], _, _, _, h => by simp [findL] at h
  | _ :: _, [], _, _, h => by simp [findL] at h
  | n :: ns, v :: vs, s, x, h => by
    unfold findL at h
    split at h
    · simp only [Option.some.injEq] at h; rw [h]; exact List.mem_cons_self
    · exact List.mem_cons_of_mem _ (findL_mem ns vs s x h)
theorem treeO_ok {t x : Vl} {s : ByteArray} (h : treeO t s = some x) (ho : okB false 6 t = true) : x ∈ t.list ∧ okB false 5 x = true := by
  unfold treeO at h
  split at h
  · have hm := findL_mem _ _ _ _ h
    refine ⟨hm, ?_⟩
    rw [okB_succ] at ho
    simp only [Bool.and_eq_true, List.all_eq_true] at ho
    exact ho.2 x hm
  · simp at h

def SpecTG (k : Nat) (t : Vl) (s : ByteArray) (w : World) (e : Ending) (w' : World) : Prop :=
  ∃ vl vn, e = .returned (.tuple #[.agg #[.int .i64 (vlOf (treeG t s)).kind, .int .i64 (vlOf (treeG t s)).num, .string (vlOf (treeG t s)).text, vl, vn], .bool (treeG t s).isSome]) ∧
    VlQ w' w.heap.size (k + 1) (vlOf (treeG t s)) [.int .i64 (vlOf (treeG t s)).kind, .int .i64 (vlOf (treeG t s)).num, .string (vlOf (treeG t s)).text, vl, vn] ∧ Below w.heap.size w w'

end Go.Proofs.Ytdaohfeajicamaa
