
/-
  DERIVED. slices.SortFunc AT THE BRANCHES OF A TREE: the row holds a permutation of what it held, in the order of its names.
-/
import Derived.Test.YtdaohfeajicamaaSrtP
import Derived.Test.YtdaohfeajicamaaShelf
import Derived.Test.YtdaohfeajicamaaVlForm
import Derived.Shelf.SlSortCmp.WholeK
namespace Go.Proofs.Ytdaohfeajicamaa
open Go.RowKit
set_option linter.unusedVariables false
set_option linter.unusedSimpArgs false

/-- A branch's two cells: a name, and an interface value. -/
abbrev Br := ByteArray × TypeId × Value
def encBr (x : Br) : List Value := [.string x.1, .iface x.2.1 x.2.2]
def cfBr (x y : Br) : Int := Lib.compareBytes x.1.data.toList y.1.data.toList
theorem ltBr (x y : Br) : Go.Proofs.ltOf cfBr x y = bLt x.1 y.1 := rfl
theorem swoBr : Go.Sort.SWO (Go.Proofs.ltOf cfBr) where
  irrefl x := by rw [ltBr, bLt_irrefl]
  trans x y z h1 h2 := by rw [ltBr] at *; exact bLt_trans h1 h2
  ntrans x y z h1 h2 := by rw [ltBr] at *; exact bLt_ntrans h1 h2

set_option maxHeartbeats 1000000 in
/-- What is handed to the sort. -/
theorem cmpBr_any (x y : Br) (W : World) : Calls Try.prog 62 #[.agg #[.string x.1, .iface x.2.1 x.2.2], .agg #[.string y.1, .iface y.2.1 y.2.2]] W fun e w' => e = .returned (.int .i64 (cfBr x y)) ∧ ∃ q os', w' = Go.Sort.grow (W.drewN q) os' := by
  have hcon := fun W' => Try.strings_Compare x.1 y.1 W'
  have HCF : Hid (Lib.compareBytes x.1.data.toList y.1.data.toList = cfBr x y) := rfl
  rw [HCF.out] at hcon
  generalize cfBr x y = r at hcon ⊢
  go_enter Try.func62, Try.ntmps62
  go_wp2_with (go_at_call 63; refine (hcon _).mono ?_; rintro e w' ⟨rfl, rfl⟩)
  go_ret
  exact ⟨rfl, 0, _, by rw [Go.Sort.alloc_eq_grow, Go.Sort.alloc_eq_grow, Go.Sort.grow_grow]; rfl⟩

instance : Inhabited Br := ⟨(ByteArray.empty, 0, .nilIface)⟩
theorem cmpLaysBr (blk off size : Nat) (w : World) : Go.Proofs.CmpLays Try.prog 62 #[] encBr 2 cfBr blk off size w :=
  fun _ _ _ _ x y => cmpBr_any x y _

set_option maxHeartbeats 2000000 in
theorem sortFn_any (B cap : Nat) (d : Array Br) (w : World) (hH : Go.Sort.HoldsK encBr 2 w B 0 d) (hB : B < w.heap.size) (hsz : d.size < 4611686018427387904) :
    Calls Try.prog 61 #[.slice (some ⟨B, 0, none⟩) d.size cap, .func (.func 62) #[] #[]] w fun e w' => e = .returned (.tuple #[]) ∧
      ∃ d' n os, Go.Sort.PermIn 0 d.size d d' ∧ Go.Sort.SortedIn (Go.Proofs.ltOf cfBr) 0 d.size d' ∧ w' = Go.Proofs.sortWorldK encBr 2 w B 0 n d' os := by
  have eg : ∀ args w, (callFunc 62 args).run Try.prog w = .ok (.enter 62 args) w := enters_of Try.func62 (by kernel_rfl) rfl
  have hlim : Lib.bitLen d.size < 4611686018427387904 := Nat.lt_of_le_of_lt (Lib.bitLen_le d.size 62 (by omega) (by omega)) (by omega)
  have hp := Go.Proofs.AnyQ.pdqsortCmpFunc_all Try.pdqBr 2 Try.isAgg85 Try.sizeOf85 encBr cfBr 62 #[] swoBr B 0 cap d w eg (cmpLaysBr B 0 d.size w)
    ⟨fun _ => rfl, fun x v hv => by simp [encBr] at hv; rcases hv with rfl | rfl <;> rfl, hH, hB⟩ (d.size + 1) 0 d.size (Lib.bitLen d.size) d w (by omega) rfl (Go.Proofs.SWK.start hH) (Nat.zero_le _) (Nat.le_refl _) hsz hlim (Or.inl rfl)
  change Calls Try.prog 83 _ _ _ at hp
  have hl : Calls Try.prog 84 #[.int .u64 (d.size : Int)] w fun e w' => e = .returned (.int .i64 (Lib.bitLen d.size : Nat)) ∧ w' = w := by
    have h := Try.bits_Len (d.size : Int) w (by omega) (by omega)
    rwa [Int.toNat_natCast] at h
  have wr : IntKind.u64.wrap (d.size : Int) = d.size := by simp [IntKind.wrap, IntKind.bits, IntKind.signed]; omega
  have hso := Go.Sort.pdq_sorts (Go.Proofs.ltOf cfBr) swoBr d 0 d.size (Lib.bitLen d.size) true true (Nat.zero_le _) (Nat.le_refl _) (Or.inl rfl)
  have HSO : Hid (Go.Sort.PermIn 0 d.size d (Go.Sort.pdq (Go.Proofs.ltOf cfBr) d 0 d.size (Lib.bitLen d.size) true true) ∧ Go.Sort.SortedIn (Go.Proofs.ltOf cfBr) 0 d.size (Go.Sort.pdq (Go.Proofs.ltOf cfBr) d 0 d.size (Lib.bitLen d.size) true true)) := ⟨hso.1, hso.2⟩
  clear hso hH eg
  generalize Go.Sort.pdq (Go.Proofs.ltOf cfBr) d 0 d.size (Lib.bitLen d.size) true true = d' at *
  go_enter Try.func61, Try.ntmps61
  go_wp2_with (first | (go_at_call 84; refine hl.mono ?_; rintro e w' ⟨rfl, rfl⟩) | (go_at_call 83; refine hp.mono ?_; rintro e w' ⟨rfl, n, os, rfl⟩))
  go_end0
  exact ⟨rfl, d', n, os, HSO.out.1, HSO.out.2, rfl⟩

end Go.Proofs.Ytdaohfeajicamaa
