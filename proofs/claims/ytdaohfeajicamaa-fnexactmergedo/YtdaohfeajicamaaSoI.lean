
/-
  DERIVED. THE WALK OF impl.ValueSorted.
-/
import Derived.Test.YtdaohfeajicamaaTreeGet
import Derived.Test.YtdaohfeajicamaaSrtI
import Derived.Test.YtdaohfeajicamaaSrtO
namespace Go.Proofs.Ytdaohfeajicamaa
open Go.RowKit
set_option linter.unusedVariables false
set_option linter.unusedSimpArgs false

/-- What ValueSorted answers. -/
def sortG (k : Nat) (t : Vl) : Vl := if okB false 6 t then srt (k + 2) t else zeroV
def ImplSO (k : Nat) (t : Vl) (w : World) (e : Ending) (w' : World) : Prop :=
  ∃ vl vn, e = .returned (.agg #[.int .i64 (sortG k t).kind, .int .i64 (sortG k t).num, .string (sortG k t).text, vl, vn]) ∧
    VlO w' (k + 2) w.heap.size w'.heap.size (sortG k t) [.int .i64 (sortG k t).kind, .int .i64 (sortG k t).num, .string (sortG k t).text, vl, vn] ∧ Below w.heap.size w w'

theorem zero_ownS (w : World) (k lo hi : Nat) (h : lo ≤ hi) : VlO w (k + 1) lo hi zeroV [.int .i64 0, .int .i64 0, .string ByteArray.empty, .slice none 0 0, .slice none 0 0] :=
  vlO_plain (t := zeroV) h rfl rfl ⟨by decide, by decide⟩ ⟨by decide, by decide⟩ (by simp [zeroV])

theorem implSO_none {k : Nat} {t : Vl} {w W : World} (hG : sortG k t = zeroV) (hb : Below w.heap.size w W) :
    ImplSO k t w (.returned (.agg #[.int .i64 0, .int .i64 0, .string ByteArray.empty, .slice none 0 0, .slice none 0 0])) W := by
  unfold ImplSO
  rw [hG]
  exact ⟨_, _, rfl, zero_ownS _ _ _ _ hb.size, hb⟩

set_option maxHeartbeats 1000000 in
theorem implValueSorted_any (k : Nat) (hk5 : 5 ≤ k) (t : Vl) (vl vn : Value) (w : World) (ht : VlR w 0 (k + 2) t [.int .i64 t.kind, .int .i64 t.num, .string t.text, vl, vn]) :
    Calls Try.prog 12 #[.agg #[.int .i64 t.kind, .int .i64 t.num, .string t.text, vl, vn]] w (ImplSO k t w) := by
  obtain ⟨al, cl, an, cn, hv⟩ := ht.cells
  simp only [List.cons.injEq, true_and, and_true] at hv
  obtain ⟨rfl, rfl⟩ := hv
  have HR : Hid (∀ W, Keeps 0 w W → VlR W 0 (k + 2) t [.int .i64 t.kind, .int .i64 t.num, .string t.text, .slice al t.list.length cl, .slice an t.names.length cn]) := fun W h => VlR.keeps h _ _ _ ht
  clear ht
  go_enter Try.func12, Try.ntmps12
  go_wp2_with fail
  refine (form_all false 6 (by omega) (k + 2) t _ _ _ (HR.out _ (((Keeps.refl _ _).alloc _).alloc _))).mono ?_
  rintro e w1 ⟨f, rfl, hF, hb1⟩
  have r0 := cell_on hb1 (p := ⟨w.heap.size + 1, 0, none⟩) (by simp; rfl)
  have r1 := cell_on hb1 (p := ⟨w.heap.size + 1, 1, none⟩) (by simp; rfl)
  have r2 := cell_on hb1 (p := ⟨w.heap.size + 1, 2, none⟩) (by simp; rfl)
  have r3 := cell_on hb1 (p := ⟨w.heap.size + 1, 3, none⟩) (by simp; rfl)
  have r4 := cell_on hb1 (p := ⟨w.heap.size + 1, 4, none⟩) (by simp; rfl)
  have HOR : Hid (Owns w1 (w.heap.size + 1) #[.int .i64 0, .int .i64 0, .string ⟨#[]⟩, .slice none 0 0, .slice none 0 0] 29) := (Owns.made2 w _ _ _).below hb1 (by simp)
  have rf := fun o => HOR.out.frozen o
  have HB1 : Hid (Below w.heap.size w w1) := (((Below.refl _ _).alloc (Nat.le_refl _) _).alloc (by simp) _).trans (hb1.mono (by simp <;> omega))
  have hz1 : w.heap.size + 1 < w1.heap.size := cell_lt r0
  have HF : Hid (okB false 6 t = true → FmR w1 0 (k + 2) t f) := fun h => FmR.base (Nat.zero_le _) _ _ _ (hF h)
  clear hb1 hF
  cases hok : okB false 6 t
  · have HG : Hid (sortG k t = zeroV) := by show sortG k t = zeroV; unfold sortG; rw [hok]; rfl
    clear hok HF
    go_wp2_with fail
    exact bodyPost_ret (v := .agg #[.int .i64 0, .int .i64 0, .string ByteArray.empty, .slice none 0 0, .slice none 0 0]) (by simp [results, Try.results12, go_sem, hz1, r0, r1, r2, r3, r4]; try rfl) rfl (implSO_none HG.out (((((HB1.out.setCell (by simp) _).setCell (by simp) _).setCell (by simp) _).setCell (by simp) _).setCell (by simp) _))
  · have HG : Hid (sortG k t = srt (k + 2) t) := by show sortG k t = _; unfold sortG; rw [hok]; rfl
    have hok2 : okB false (k + 2) t = true := okB_le (by omega) hok
    have HOK : Hid (okB false (k + 2) (srt (k + 2) t) = true) := okB_srt _ _ _ (Nat.le_refl _) hok2
    have HWF : Hid (wfB (k + 2) t = true) := ok_wf _ _ hok2
    have hfm := HF.out hok
    obtain ⟨T0, x0, rfl⟩ := FmR.iface hfm
    have HFM : Hid (FmR w1 0 (k + 2) t (.iface T0 x0)) := hfm
    obtain ⟨x, hx⟩ : ∃ x, srt (k + 2) t = x := ⟨_, rfl⟩
    have HS := sorted_all (k + 2) t T0 x0 w1 HFM.out HWF.out
    rw [hx] at HS HOK HG
    clear hok hok2 HF hfm hx
    go_wp2_with fail
    refine HS.mono ?_
    rintro e w2 ⟨v2, rfl, hfm2, hb2⟩
    replace r0 := cell_on hb2 r0
    replace r1 := cell_on hb2 r1
    replace r2 := cell_on hb2 r2
    replace r3 := cell_on hb2 r3
    replace r4 := cell_on hb2 r4
    replace rf : ∀ o, w2.frozen? ⟨w.heap.size + 1, o, none⟩ = false := fun o => (hb2.frozen (p := ⟨w.heap.size + 1, o, none⟩) hz1).trans (rf o)
    have HB2 : Hid (Below w.heap.size w w2) := HB1.out.trans (hb2.mono HB1.out.size)
    replace hz1 : w.heap.size + 1 < w2.heap.size := cell_lt r0
    obtain ⟨T, y, rfl⟩ := FmR.iface hfm2
    obtain ⟨hmt, hcf⟩ := mth_leads hfm2
    have HV : Hid (Calls Try.prog (mth T) #[y] w2 (ValP (k + 2) x w2)) := val_all (k + 2) x T y w2 (FmR.base (Nat.zero_le _) _ _ _ hfm2) HOK.out
    clear hb2 HFM HS hfm2
    go_wp2_with fail
    refine (Hid.out HV).mono ?_
    rintro e w3 ⟨vl3, vn3, rfl, hO3, hb3⟩
    obtain ⟨p1, n1, p1', n1', hv1⟩ := hO3.cells
    simp only [List.cons.injEq, true_and, and_true] at hv1
    obtain ⟨rfl, rfl⟩ := hv1
    replace r0 := cell_on hb3 r0
    replace r1 := cell_on hb3 r1
    replace r2 := cell_on hb3 r2
    replace r3 := cell_on hb3 r3
    replace r4 := cell_on hb3 r4
    replace rf : ∀ o, w3.frozen? ⟨w.heap.size + 1, o, none⟩ = false := fun o => (hb3.frozen (p := ⟨w.heap.size + 1, o, none⟩) hz1).trans (rf o)
    have HB3 : Hid (Below w.heap.size w w3) := HB2.out.trans (hb3.mono HB2.out.size)
    have hz3 : w.heap.size + 1 < w3.heap.size := cell_lt r0
    have HO3 : Hid (VlO w3 (k + 2) w2.heap.size w3.heap.size x [.int .i64 x.kind, .int .i64 x.num, .string x.text, .slice p1 x.list.length n1, .slice p1' x.names.length n1']) := hO3
    clear hb3 hO3
    go_wp2_with fail
    refine bodyPost_ret (v := .agg #[.int .i64 x.kind, .int .i64 x.num, .string x.text, .slice p1 x.list.length n1, .slice p1' x.names.length n1']) (by simp [results, Try.results12, go_sem, hz3, r0, r1, r2, r3, r4]; try rfl) rfl ?_
    unfold ImplSO
    rw [HG.out]
    refine ⟨_, _, rfl, VlO.wide (lo := w2.heap.size) (hi := w3.heap.size) (by have := HB2.out.size; omega) (by simp [World.setCell]) _ _ _ (VlO.same _ _ _ _ _ (fun b h1 h2 => ?_) HO3.out), ((((HB3.out.setCell (by simp) _).setCell (by simp) _).setCell (by simp) _).setCell (by simp) _).setCell (by simp) _⟩
    simp only [World.setCell, Array.getElem?_modify]
    repeat rw [if_neg (by omega)]

end Go.Proofs.Ytdaohfeajicamaa
