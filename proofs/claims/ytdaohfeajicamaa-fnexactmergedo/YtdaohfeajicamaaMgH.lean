
/-
  DERIVED. THE WALKS OF impl.MergeDo, spec.MergeDo.
-/
import Derived.Test.YtdaohfeajicamaaMgM
import Derived.Test.YtdaohfeajicamaaMgS
import Derived.Test.YtdaohfeajicamaaSoB
import Derived.Test.YtdaohfeajicamaaSoI
namespace Go.Proofs.Ytdaohfeajicamaa
open Go.RowKit
set_option linter.unusedVariables false
set_option linter.unusedSimpArgs false

/-- What MergeDo answers. -/
def mdG (k : Nat) (v m : Vl) : Vl := if okB false 6 v then (if okB false 6 m && okB false 6 (srt (k + 2) (mdo (k + 2) v m)) then srt (k + 2) (mdo (k + 2) v m) else srt (k + 2) v) else zeroV
theorem mdG_no {k : Nat} {v m : Vl} (h : okB false 6 v = false) : mdG k v m = zeroV := by unfold mdG; rw [h]; rfl
theorem mdG_old {k : Nat} {v m : Vl} (h : okB false 6 v = true) (hm : (okB false 6 m && okB false 6 (srt (k + 2) (mdo (k + 2) v m))) = false) : mdG k v m = srt (k + 2) v := by unfold mdG; rw [h, hm]; rfl
theorem mdG_new {k : Nat} {v m : Vl} (h : okB false 6 v = true) (hm : okB false 6 m = true) (hx : okB false 6 (srt (k + 2) (mdo (k + 2) v m)) = true) : mdG k v m = srt (k + 2) (mdo (k + 2) v m) := by unfold mdG; rw [h, hm, hx]; rfl

structure BoxM (w wr : World) (cv cm : Array Value) : Prop where
  bv : Owns wr w.heap.size cv 29
  bm : Owns wr (w.heap.size + 1) cm 29
  br : Owns wr (w.heap.size + 2) #[.int .i64 0, .int .i64 0, .string ⟨#[]⟩, .slice none 0 0, .slice none 0 0] 29
  bel : Below w.heap.size w wr
theorem BoxM.on {w wr W : World} {cv cm : Array Value} (h : BoxM w wr cv cm) (hb : Below wr.heap.size wr W) : BoxM w W cv cm := ⟨h.bv.below hb h.bv.lt, h.bm.below hb h.bm.lt, h.br.below hb h.br.lt, h.bel.trans (hb.mono h.bel.size)⟩
theorem BoxM.start {w : World} {cv cm : Array Value} : BoxM w (((w.alloc (Obj.cells cv 29)).alloc (Obj.cells cm 29)).alloc (Obj.cells #[.int .i64 0, .int .i64 0, .string ⟨#[]⟩, .slice none 0 0, .slice none 0 0] 29)) cv cm := by
  have s1 : (w.alloc (Obj.cells cv 29)).heap.size = w.heap.size + 1 := by simp
  have s2 : ((w.alloc (Obj.cells cv 29)).alloc (Obj.cells cm 29)).heap.size = w.heap.size + 2 := by simp
  have o1 := Owns.made w cv 29
  have o2 := Owns.made (w.alloc (Obj.cells cv 29)) cm 29
  have o3 := Owns.made ((w.alloc (Obj.cells cv 29)).alloc (Obj.cells cm 29)) #[.int .i64 0, .int .i64 0, .string ⟨#[]⟩, .slice none 0 0, .slice none 0 0] 29
  rw [s1] at o2
  rw [s2] at o3
  have a1 : ∀ (W : World) (o : Obj), Below W.heap.size W (W.alloc o) := fun W o => (Below.refl _ _).alloc (Nat.le_refl _) o
  exact ⟨(o1.below (a1 _ _) (by rw [s1]; omega)).below (a1 _ _) (by rw [s2]; omega), o2.below (a1 _ _) (by rw [s2]; omega), o3, (((Below.refl _ _).alloc (Nat.le_refl _) _).alloc (by simp) _).alloc (by simp; omega) _⟩

/-- spec.l8Sorted, told of the value as a whole. -/
theorem sortS_told (k : Nat) (t : Vl) (vl vn : Value) (w : World) (ht : VlR w 0 k t [.int .i64 t.kind, .int .i64 t.num, .string t.text, vl, vn]) (hwf : wfB k t = true) {x : Vl} (hx : srt k t = x) :
    Calls Try.prog 32 #[.agg #[.int .i64 t.kind, .int .i64 t.num, .string t.text, vl, vn]] w fun e w' => ∃ (p1 : Option Addr) (n1 : Nat) (p1' : Option Addr) (n1' : Nat), e = .returned (.agg #[.int .i64 x.kind, .int .i64 x.num, .string x.text, .slice p1 x.list.length n1, .slice p1' x.names.length n1']) ∧ Hid (VlR w' 0 k x [.int .i64 x.kind, .int .i64 x.num, .string x.text, .slice p1 x.list.length n1, .slice p1' x.names.length n1']) ∧ Below w.heap.size w w' := by
  refine (sortS_all k t vl vn w ht hwf).mono ?_
  rintro e w' ⟨p, n, p', n', rfl, hK, hb⟩
  obtain ⟨e1, e2, e3⟩ := srt_kind k t
  rw [hx] at e1 e2 e3 hK ⊢
  refine ⟨p, n, p', n', by rw [e1, e2, e3], ?_, hb⟩
  have h := VlR.base (Nat.zero_le _) _ _ _ (VlK.now hK)
  show VlR _ _ _ _ _
  rw [e1, e2, e3]
  exact h

/-- sorted, and then value(), of a form. -/
theorem sort_val (k : Nat) (t : Vl) (T : TypeId) (x : Value) (w : World) (hf : FmR w 0 k t (.iface T x)) (hfm : fmB k t = true) {s : Vl} (hs : srt k t = s) :
    Calls Try.prog 36 #[.iface T x] w fun e w' => ∃ T1 x1, e = .returned (.iface T1 x1) ∧ ((∀ W, Sem.run Try.prog (method 268 T1 x1 "loop.example/pergola/impl.value") W = .ok (mth T1, x1) W) ∧ (∀ W, Sem.run Try.prog (callFunc (mth T1) #[x1]) W = .ok (.enter (mth T1) #[x1]) W)) ∧
      Hid (∀ W, Keeps 0 w' W → Calls Try.prog (mth T1) #[x1] W (ValP k s W)) ∧ Below w.heap.size w w' := by
  refine (sorted_all k t T x w hf (fm_wf _ _ hfm)).mono ?_
  rintro e w' ⟨v', rfl, hf', hb⟩
  obtain ⟨T1, x1, rfl⟩ := hf'.iface
  rw [hs] at hf'
  refine ⟨T1, x1, rfl, mth_leads hf', fun W h => val_fm k s T1 x1 W (FmR.keeps h _ _ _ (FmR.base (Nat.zero_le _) _ _ _ hf')) (by rw [← hs]; exact fm_srt _ _ _ (Nat.le_refl _) hfm), hb⟩

def ImplGO (k : Nat) (v m : Vl) (w : World) (e : Ending) (w' : World) : Prop :=
  ∃ vl vn, e = .returned (.agg #[.int .i64 (mdG k v m).kind, .int .i64 (mdG k v m).num, .string (mdG k v m).text, vl, vn]) ∧ VlO w' (k + 2) w.heap.size w'.heap.size (mdG k v m) [.int .i64 (mdG k v m).kind, .int .i64 (mdG k v m).num, .string (mdG k v m).text, vl, vn] ∧ Below w.heap.size w w'
def SpecGO (k : Nat) (v m : Vl) (w : World) (e : Ending) (w' : World) : Prop :=
  ∃ vl vn, e = .returned (.agg #[.int .i64 (mdG k v m).kind, .int .i64 (mdG k v m).num, .string (mdG k v m).text, vl, vn]) ∧ VlR w' w.heap.size (k + 2) (mdG k v m) [.int .i64 (mdG k v m).kind, .int .i64 (mdG k v m).num, .string (mdG k v m).text, vl, vn] ∧ Below w.heap.size w w'
theorem implGO_none {k : Nat} {v m : Vl} {w W : World} (hG : mdG k v m = zeroV) (hb : Below w.heap.size w W) :
    ImplGO k v m w (.returned (.agg #[.int .i64 0, .int .i64 0, .string ByteArray.empty, .slice none 0 0, .slice none 0 0])) W := by
  unfold ImplGO
  rw [hG]
  exact ⟨_, _, rfl, zero_ownS _ _ _ _ hb.size, hb⟩
theorem specGO_none {k : Nat} {v m : Vl} {w W : World} (hG : mdG k v m = zeroV) (hb : Below w.heap.size w W) :
    SpecGO k v m w (.returned (.agg #[.int .i64 0, .int .i64 0, .string ByteArray.empty, .slice none 0 0, .slice none 0 0])) W := by
  unfold SpecGO
  rw [hG]
  exact ⟨_, _, rfl, zero_read _ _ _, hb⟩

theorem implGO_put {k : Nat} {v m x : Vl} {w wa wb : World} {p1 p1' : Option Addr} {n1 n1' : Nat} (hG : mdG k v m = x) (hwa : w.heap.size + 3 ≤ wa.heap.size) (hO : VlO wb (k + 2) wa.heap.size wb.heap.size x [.int .i64 x.kind, .int .i64 x.num, .string x.text, .slice p1 x.list.length n1, .slice p1' x.names.length n1']) (hb : Below w.heap.size w wb) (hab : wa.heap.size ≤ wb.heap.size) :
    ImplGO k v m w (.returned (.agg #[.int .i64 x.kind, .int .i64 x.num, .string x.text, .slice p1 x.list.length n1, .slice p1' x.names.length n1'])) (((((wb.setCell ⟨w.heap.size + 1 + 1, 0, none⟩ (.int .i64 x.kind)).setCell ⟨w.heap.size + 1 + 1, 1, none⟩ (.int .i64 x.num)).setCell ⟨w.heap.size + 1 + 1, 2, none⟩ (.string x.text)).setCell ⟨w.heap.size + 1 + 1, 3, none⟩ (.slice p1 x.list.length n1)).setCell ⟨w.heap.size + 1 + 1, 4, none⟩ (.slice p1' x.names.length n1')) := by
  unfold ImplGO
  rw [hG]
  refine ⟨_, _, rfl, VlO.wide (lo := wa.heap.size) (hi := wb.heap.size) (by omega) (by simp [World.setCell]) _ _ _ (VlO.same _ _ _ _ _ (fun b h1 h2 => ?_) hO), ((((hb.setCell (by simp; omega) _).setCell (by simp; omega) _).setCell (by simp; omega) _).setCell (by simp; omega) _).setCell (by simp; omega) _⟩
  simp only [World.setCell, Array.getElem?_modify]
  repeat rw [if_neg (by omega)]
set_option maxHeartbeats 4000000 in
theorem implMergeDo_any (k : Nat) (hk5 : 5 ≤ k) (v m : Vl) (vl vn ml mn : Value) (w : World) (hv : VlR w 0 (k + 2) v [.int .i64 v.kind, .int .i64 v.num, .string v.text, vl, vn]) (hm : VlR w 0 (k + 2) m [.int .i64 m.kind, .int .i64 m.num, .string m.text, ml, mn]) :
    Calls Try.prog 26 #[.agg #[.int .i64 v.kind, .int .i64 v.num, .string v.text, vl, vn], .agg #[.int .i64 m.kind, .int .i64 m.num, .string m.text, ml, mn]] w (ImplGO k v m w) := by
  obtain ⟨va, vc, va', vc', hq⟩ := hv.cells
  simp only [List.cons.injEq, true_and, and_true] at hq
  obtain ⟨rfl, rfl⟩ := hq
  obtain ⟨ma, mc, ma', mc', hq⟩ := hm.cells
  simp only [List.cons.injEq, true_and, and_true] at hq
  obtain ⟨rfl, rfl⟩ := hq
  have HV : Hid (∀ W, Keeps 0 w W → VlR W 0 (k + 2) v [.int .i64 v.kind, .int .i64 v.num, .string v.text, .slice va v.list.length vc, .slice va' v.names.length vc']) := fun W h => VlR.keeps h _ _ _ hv
  have HM : Hid (∀ W, Keeps 0 w W → VlR W 0 (k + 2) m [.int .i64 m.kind, .int .i64 m.num, .string m.text, .slice ma m.list.length mc, .slice ma' m.names.length mc']) := fun W h => VlR.keeps h _ _ _ hm
  clear hv hm
  go_enter Try.func26, Try.ntmps26
  go_wp2_with fail
  have hS0 : BoxM w ((((w.alloc (Obj.cells #[.int .i64 v.kind, .int .i64 v.num, .string v.text, .slice va v.list.length vc, .slice va' v.names.length vc'] 29)).alloc (Obj.cells #[.int .i64 m.kind, .int .i64 m.num, .string m.text, .slice ma m.list.length mc, .slice ma' m.names.length mc'] 29))).alloc (Obj.cells #[.int .i64 0, .int .i64 0, .string ⟨#[]⟩, .slice none 0 0, .slice none 0 0] 29)) #[.int .i64 v.kind, .int .i64 v.num, .string v.text, .slice va v.list.length vc, .slice va' v.names.length vc'] #[.int .i64 m.kind, .int .i64 m.num, .string m.text, .slice ma m.list.length mc, .slice ma' m.names.length mc'] := BoxM.start
  refine (form_all false 6 (by omega) (k + 2) v _ _ _ (HV.out _ (Keeps.of_below hS0.bel (Nat.le_refl _) 0))).mono ?_
  rintro e w1 ⟨f1, rfl, hF1, hb1⟩
  have HS1 : Hid (BoxM w w1 #[.int .i64 v.kind, .int .i64 v.num, .string v.text, .slice va v.list.length vc, .slice va' v.names.length vc'] #[.int .i64 m.kind, .int .i64 m.num, .string m.text, .slice ma m.list.length mc, .slice ma' m.names.length mc']) := hS0.on hb1
  have HF1 : Hid (okB false 6 v = true → FmR w1 0 (k + 2) v f1) := fun h => FmR.base (Nat.zero_le _) _ _ _ (hF1 h)
  clear hS0 hb1 hF1
  obtain ⟨v0, v1, v2, v3, v4⟩ := five_ofQ HS1.out.bv.cell
  obtain ⟨m0, m1, m2, m3, m4⟩ := five_ofQ HS1.out.bm.cell
  obtain ⟨r0, r1, r2, r3, r4⟩ := res_box HS1.out.br
  have rf := res_frozen HS1.out.br
  have hz : w.heap.size + 1 + 1 < w1.heap.size := cell_lt r0
  go_wp2_with fail
  refine (form_all false 6 (by omega) (k + 2) m _ _ _ (HM.out _ (Keeps.of_below HS1.out.bel (Nat.le_refl _) 0))).mono ?_
  rintro e w2 ⟨f2, rfl, hF2, hb2⟩
  have HS2 : Hid (BoxM w w2 #[.int .i64 v.kind, .int .i64 v.num, .string v.text, .slice va v.list.length vc, .slice va' v.names.length vc'] #[.int .i64 m.kind, .int .i64 m.num, .string m.text, .slice ma m.list.length mc, .slice ma' m.names.length mc']) := HS1.out.on hb2
  have HF2 : Hid (okB false 6 m = true → FmR w2 0 (k + 2) m f2) := fun h => FmR.base (Nat.zero_le _) _ _ _ (hF2 h)
  have HFV : Hid (okB false 6 v = true → FmR w2 0 (k + 2) v f1) := fun h => FmR.keeps (Keeps.of_below hb2 (Nat.le_refl _) 0) _ _ _ (HF1.out h)
  clear v0 v1 v2 v3 v4 m0 m1 m2 m3 m4 r0 r1 r2 r3 r4 rf hz HF1 hF2 hb2 HS1
  obtain ⟨v0, v1, v2, v3, v4⟩ := five_ofQ HS2.out.bv.cell
  obtain ⟨m0, m1, m2, m3, m4⟩ := five_ofQ HS2.out.bm.cell
  obtain ⟨r0, r1, r2, r3, r4⟩ := res_box HS2.out.br
  have rf := res_frozen HS2.out.br
  have hz : w.heap.size + 1 + 1 < w2.heap.size := cell_lt r0
  cases hok : okB false 6 v
  · have HG : Hid (mdG k v m = zeroV) := mdG_no hok
    clear hok
    go_wp2_with fail
    exact bodyPost_ret (v := .agg #[.int .i64 0, .int .i64 0, .string ByteArray.empty, .slice none 0 0, .slice none 0 0]) (by simp [results, Try.results26, go_sem, hz, r0, r1, r2, r3, r4]; try rfl) rfl (implGO_none HG.out (((((HS2.out.bel.setCell (by simp; omega) _).setCell (by simp; omega) _).setCell (by simp; omega) _).setCell (by simp; omega) _).setCell (by simp; omega) _))
  · have hfv := HFV.out hok
    obtain ⟨Tv, xv, rfl⟩ := FmR.iface hfv
    have HRV : Hid (FmR w2 0 (k + 2) v (.iface Tv xv)) := hfv
    have HOV : Hid (okB false 6 v = true) := hok
    have HOV2 : Hid (okB false (k + 2) v = true) := okB_le (by omega) hok
    clear hok HFV hfv
    cases hom : okB false 6 m
    · have HG : Hid (mdG k v m = srt (k + 2) v) := mdG_old HOV.out (by rw [hom]; rfl)
      obtain ⟨s, hs⟩ : ∃ s, srt (k + 2) v = s := ⟨_, rfl⟩
      have HSV := sort_val (k + 2) v Tv xv w2 HRV.out (ok_fm _ _ HOV2.out) hs
      rw [hs] at HG
      clear hom HF2 hs
      go_wp2_with fail
      refine HSV.mono ?_
      rintro e w7 ⟨T7, x7, rfl, hld7, HVL7, hb7⟩
      obtain ⟨hmt7, hcf7⟩ := hld7
      have HS7 : Hid (BoxM w w7 #[.int .i64 v.kind, .int .i64 v.num, .string v.text, .slice va v.list.length vc, .slice va' v.names.length vc'] #[.int .i64 m.kind, .int .i64 m.num, .string m.text, .slice ma m.list.length mc, .slice ma' m.names.length mc']) := HS2.out.on hb7
      have hc7 := HVL7.out w7 (Keeps.refl _ _)
      clear hb7 HSV v0 v1 v2 v3 v4 m0 m1 m2 m3 m4 r0 r1 r2 r3 r4 rf hz HS2
      go_wp2_with fail
      refine hc7.mono ?_
      rintro e w8 ⟨vl8, vn8, rfl, hO8, hb8⟩
      obtain ⟨p8, n8, p8', n8', hq⟩ := hO8.cells
      simp only [List.cons.injEq, true_and, and_true] at hq
      obtain ⟨rfl, rfl⟩ := hq
      have HS8 : Hid (BoxM w w8 #[.int .i64 v.kind, .int .i64 v.num, .string v.text, .slice va v.list.length vc, .slice va' v.names.length vc'] #[.int .i64 m.kind, .int .i64 m.num, .string m.text, .slice ma m.list.length mc, .slice ma' m.names.length mc']) := HS7.out.on hb8
      have HO8 : Hid (VlO w8 (k + 2) w7.heap.size w8.heap.size s [.int .i64 s.kind, .int .i64 s.num, .string s.text, .slice p8 s.list.length n8, .slice p8' s.names.length n8']) := hO8
      have h78 : w7.heap.size ≤ w8.heap.size := hb8.size
      have hz78 : w.heap.size + 3 ≤ w7.heap.size := by have := HS7.out.br.lt; omega
      clear hc7 hb8 hO8 hmt7 hcf7 HVL7 HS7
      obtain ⟨r0, r1, r2, r3, r4⟩ := res_box HS8.out.br
      have rf := res_frozen HS8.out.br
      have hz : w.heap.size + 1 + 1 < w8.heap.size := cell_lt r0
      go_wp2_with fail
      refine bodyPost_ret (v := .agg #[.int .i64 s.kind, .int .i64 s.num, .string s.text, .slice p8 s.list.length n8, .slice p8' s.names.length n8']) (by simp [results, Try.results26, go_sem, hz, r0, r1, r2, r3, r4]; try rfl) rfl ?_
      exact implGO_put (wa := w7) HG.out hz78 HO8.out HS8.out.bel h78
    · have hfm := HF2.out hom
      obtain ⟨Tm, xm, rfl⟩ := FmR.iface hfm
      have HOM : Hid (okB false 6 m = true) := hom
      have hmd := merged_all (k + 2) w2 v m Tv xv Tm xm w2 (Keeps.refl _ _) HRV.out hfm HOV2.out (okB_le (by omega) hom)
      have hfmd : fmB (k + 2) (mdo (k + 2) v m) = true := mdo_fm (k + 2) (k + 2) v m (Nat.le_refl _) HOV2.out (okB_le (by omega) hom)
      obtain ⟨D, hD⟩ : ∃ D, mdo (k + 2) v m = D := ⟨_, rfl⟩
      rw [hD] at hmd hfmd
      have HD : Hid (mdo (k + 2) v m = D) := hD
      have HFD : Hid (fmB (k + 2) D = true) := hfmd
      clear hom HF2 hfm hD hfmd
      go_wp2_with fail
      refine hmd.mono ?_
      rintro e w3 ⟨Td, xd, rfl, hfk, hb3⟩
      have HS3 : Hid (BoxM w w3 #[.int .i64 v.kind, .int .i64 v.num, .string v.text, .slice va v.list.length vc, .slice va' v.names.length vc'] #[.int .i64 m.kind, .int .i64 m.num, .string m.text, .slice ma m.list.length mc, .slice ma' m.names.length mc']) := HS2.out.on hb3
      have hfd : FmR w3 0 (k + 2) D (.iface Td xd) := hfk w3 (Keeps.of_below hb3 (Nat.le_refl _) 0) (fun _ _ _ => rfl)
      have HRV3 : Hid (FmR w3 0 (k + 2) v (.iface Tv xv)) := FmR.keeps (Keeps.of_below hb3 (Nat.le_refl _) 0) _ _ _ HRV.out
      obtain ⟨s1, hs1⟩ : ∃ s1, srt (k + 2) D = s1 := ⟨_, rfl⟩
      have HSR : Hid (srt (k + 2) D = s1) := hs1
      have HSV1 := sort_val (k + 2) D Td xd w3 hfd HFD.out hs1
      clear v0 v1 v2 v3 v4 m0 m1 m2 m3 m4 r0 r1 r2 r3 r4 rf hz hmd hfk hb3 hfd hs1 HS2 HRV
      go_wp2_with fail
      refine HSV1.mono ?_
      rintro e w4 ⟨T4, x4, rfl, hld4, HVL4, hb4⟩
      obtain ⟨hmt4, hcf4⟩ := hld4
      have HS4 : Hid (BoxM w w4 #[.int .i64 v.kind, .int .i64 v.num, .string v.text, .slice va v.list.length vc, .slice va' v.names.length vc'] #[.int .i64 m.kind, .int .i64 m.num, .string m.text, .slice ma m.list.length mc, .slice ma' m.names.length mc']) := HS3.out.on hb4
      have HRV4 : Hid (FmR w4 0 (k + 2) v (.iface Tv xv)) := FmR.keeps (Keeps.of_below hb4 (Nat.le_refl _) 0) _ _ _ HRV3.out
      have hc4 := HVL4.out w4 (Keeps.refl _ _)
      clear hb4 HSV1 HS3 HRV3
      go_wp2_with fail
      refine hc4.mono ?_
      rintro e w5 ⟨vl5, vn5, rfl, hO5, hb5⟩
      obtain ⟨p1, n1, p1', n1', hq⟩ := hO5.cells
      simp only [List.cons.injEq, true_and, and_true] at hq
      obtain ⟨rfl, rfl⟩ := hq
      have hS5 := HS4.out.on hb5
      have hR5 : VlR w5 0 (k + 2) s1 [.int .i64 s1.kind, .int .i64 s1.num, .string s1.text, .slice p1 s1.list.length n1, .slice p1' s1.names.length n1'] := VlR.base (Nat.zero_le _) _ _ _ (VlO.read _ _ _ _ _ hO5)
      obtain ⟨W5, hW5⟩ : ∃ W5, W5 = w5.alloc (Obj.cells #[.int .i64 s1.kind, .int .i64 s1.num, .string s1.text, .slice p1 s1.list.length n1, .slice p1' s1.names.length n1'] 29) := ⟨_, rfl⟩
      have hb5' : Below w5.heap.size w5 W5 := by rw [hW5]; exact (Below.refl _ _).alloc (Nat.le_refl _) _
      have HS5 : Hid (BoxM w W5 #[.int .i64 v.kind, .int .i64 v.num, .string v.text, .slice va v.list.length vc, .slice va' v.names.length vc'] #[.int .i64 m.kind, .int .i64 m.num, .string m.text, .slice ma m.list.length mc, .slice ma' m.names.length mc']) := hS5.on hb5'
      have HR5 : Hid (VlR W5 0 (k + 2) s1 [.int .i64 s1.kind, .int .i64 s1.num, .string s1.text, .slice p1 s1.list.length n1, .slice p1' s1.names.length n1']) := VlR.keeps (Keeps.of_below hb5' (Nat.le_refl _) 0) _ _ _ hR5
      have HRV5 : Hid (FmR W5 0 (k + 2) v (.iface Tv xv)) := FmR.keeps ((Keeps.of_below hb5 (Nat.le_refl _) 0).trans (Keeps.of_below hb5' (Nat.le_refl _) 0)) _ _ _ HRV4.out
      have HOW5 : Hid (Owns W5 w5.heap.size #[.int .i64 s1.kind, .int .i64 s1.num, .string s1.text, .slice p1 s1.list.length n1, .slice p1' s1.names.length n1'] 29) := by rw [hW5]; exact Owns.made _ _ _
      have HO5 : Hid (VlO W5 (k + 2) w4.heap.size w5.heap.size s1 [.int .i64 s1.kind, .int .i64 s1.num, .string s1.text, .slice p1 s1.list.length n1, .slice p1' s1.names.length n1']) := by rw [hW5]; exact VlO.same _ _ _ _ _ (fun b _ h2 => Below.heap_alloc _ _ _ h2) hO5
      have h45 : w4.heap.size ≤ w5.heap.size := hb5.size
      have HW5 : Hid (W5 = w5.alloc (Obj.cells #[.int .i64 s1.kind, .int .i64 s1.num, .string s1.text, .slice p1 s1.list.length n1, .slice p1' s1.names.length n1'] 29)) := hW5
      have hz45 : w.heap.size + 3 ≤ w4.heap.size := by have := HS4.out.br.lt; omega
      clear hc4 hb5 hb5' hO5 hS5 hR5 hW5 hmt4 hcf4 HVL4 HS4 HRV4
      go_wp2_with fail
      rw [← HW5.out]
      clear HW5
      obtain ⟨b0, b1, b2, b3, b4⟩ := five_ofQ HOW5.out.cell
      have hlt5 : w5.heap.size < W5.heap.size := cell_lt b0
      refine (implValueOk_any (k + 2) s1 _ _ W5 HR5.out).mono ?_
      rintro e w6 ⟨rfl, hb6⟩
      have HS6 : Hid (BoxM w w6 #[.int .i64 v.kind, .int .i64 v.num, .string v.text, .slice va v.list.length vc, .slice va' v.names.length vc'] #[.int .i64 m.kind, .int .i64 m.num, .string m.text, .slice ma m.list.length mc, .slice ma' m.names.length mc']) := HS5.out.on hb6
      have h56 : W5.heap.size ≤ w6.heap.size := hb6.size
      have HO6 : Hid (VlO w6 (k + 2) w4.heap.size w5.heap.size s1 [.int .i64 s1.kind, .int .i64 s1.num, .string s1.text, .slice p1 s1.list.length n1, .slice p1' s1.names.length n1']) := VlO.same _ _ _ _ _ (fun b _ h2 => hb6.block b (by omega)) HO5.out
      have HRV6 : Hid (FmR w6 0 (k + 2) v (.iface Tv xv)) := FmR.keeps (Keeps.of_below hb6 (Nat.le_refl _) 0) _ _ _ HRV5.out
      obtain ⟨b0, b1, b2, b3, b4⟩ := five_ofQ (HOW5.out.below hb6 HOW5.out.lt).cell
      clear hb6 HS5 HO5 HRV5 HR5 HOW5
      obtain ⟨v0, v1, v2, v3, v4⟩ := five_ofQ HS6.out.bv.cell
      obtain ⟨m0, m1, m2, m3, m4⟩ := five_ofQ HS6.out.bm.cell
      obtain ⟨r0, r1, r2, r3, r4⟩ := res_box HS6.out.br
      have rf := res_frozen HS6.out.br
      have hz : w.heap.size + 1 + 1 < w6.heap.size := cell_lt r0
      cases hos : okB false 6 s1
      · have HG : Hid (mdG k v m = srt (k + 2) v) := mdG_old HOV.out (by rw [HD.out, HSR.out, hos, HOM.out]; rfl)
        obtain ⟨s, hs⟩ : ∃ s, srt (k + 2) v = s := ⟨_, rfl⟩
        have HSV := sort_val (k + 2) v Tv xv w6 HRV6.out (ok_fm _ _ HOV2.out) hs
        rw [hs] at HG
        clear hos hs
        go_wp2_with fail
        refine HSV.mono ?_
        rintro e w7 ⟨T7, x7, rfl, hld7, HVL7, hb7⟩
        obtain ⟨hmt7, hcf7⟩ := hld7
        have HS7 : Hid (BoxM w w7 #[.int .i64 v.kind, .int .i64 v.num, .string v.text, .slice va v.list.length vc, .slice va' v.names.length vc'] #[.int .i64 m.kind, .int .i64 m.num, .string m.text, .slice ma m.list.length mc, .slice ma' m.names.length mc']) := HS6.out.on hb7
        have hc7 := HVL7.out w7 (Keeps.refl _ _)
        clear hb7 HSV v0 v1 v2 v3 v4 m0 m1 m2 m3 m4 r0 r1 r2 r3 r4 rf hz HS6
        go_wp2_with fail
        refine hc7.mono ?_
        rintro e w8 ⟨vl8, vn8, rfl, hO8, hb8⟩
        obtain ⟨p8, n8, p8', n8', hq⟩ := hO8.cells
        simp only [List.cons.injEq, true_and, and_true] at hq
        obtain ⟨rfl, rfl⟩ := hq
        have HS8 : Hid (BoxM w w8 #[.int .i64 v.kind, .int .i64 v.num, .string v.text, .slice va v.list.length vc, .slice va' v.names.length vc'] #[.int .i64 m.kind, .int .i64 m.num, .string m.text, .slice ma m.list.length mc, .slice ma' m.names.length mc']) := HS7.out.on hb8
        have HO8 : Hid (VlO w8 (k + 2) w7.heap.size w8.heap.size s [.int .i64 s.kind, .int .i64 s.num, .string s.text, .slice p8 s.list.length n8, .slice p8' s.names.length n8']) := hO8
        have h78 : w7.heap.size ≤ w8.heap.size := hb8.size
        have hz78 : w.heap.size + 3 ≤ w7.heap.size := by have := HS7.out.br.lt; omega
        clear hc7 hb8 hO8 hmt7 hcf7 HVL7 HS7
        obtain ⟨r0, r1, r2, r3, r4⟩ := res_box HS8.out.br
        have rf := res_frozen HS8.out.br
        have hz : w.heap.size + 1 + 1 < w8.heap.size := cell_lt r0
        go_wp2_with fail
        refine bodyPost_ret (v := .agg #[.int .i64 s.kind, .int .i64 s.num, .string s.text, .slice p8 s.list.length n8, .slice p8' s.names.length n8']) (by simp [results, Try.results26, go_sem, hz, r0, r1, r2, r3, r4]; try rfl) rfl ?_
        exact implGO_put (wa := w7) HG.out hz78 HO8.out HS8.out.bel h78
      · have HG : Hid (mdG k v m = s1) := by show _ = _; rw [mdG_new HOV.out HOM.out (by rw [HD.out, HSR.out]; exact hos), HD.out, HSR.out]
        have HO7 : Hid (VlO w6 (k + 2) w4.heap.size w6.heap.size s1 [.int .i64 s1.kind, .int .i64 s1.num, .string s1.text, .slice p1 s1.list.length n1, .slice p1' s1.names.length n1']) := VlO.wide (Nat.le_refl _) (by omega) _ _ _ HO6.out
        clear hos
        go_wp2_with fail
        refine bodyPost_ret (v := .agg #[.int .i64 s1.kind, .int .i64 s1.num, .string s1.text, .slice p1 s1.list.length n1, .slice p1' s1.names.length n1']) (by simp [results, Try.results26, go_sem, hz, r0, r1, r2, r3, r4]; try rfl) rfl ?_
        exact implGO_put (wa := w4) HG.out hz45 HO7.out HS6.out.bel (by omega)

end Go.Proofs.Ytdaohfeajicamaa

namespace Go.Proofs.Ytdaohfeajicamaa
open Go.RowKit
set_option linter.unusedVariables false
set_option linter.unusedSimpArgs false

theorem sortS_toldK (k : Nat) (t : Vl) (vl vn : Value) (w : World) (ht : VlR w 0 k t [.int .i64 t.kind, .int .i64 t.num, .string t.text, vl, vn]) (hwf : wfB k t = true) {x : Vl} (hx : srt k t = x) :
    Calls Try.prog 32 #[.agg #[.int .i64 t.kind, .int .i64 t.num, .string t.text, vl, vn]] w fun e w' => ∃ (p1 : Option Addr) (n1 : Nat) (p1' : Option Addr) (n1' : Nat), e = .returned (.agg #[.int .i64 x.kind, .int .i64 x.num, .string x.text, .slice p1 x.list.length n1, .slice p1' x.names.length n1']) ∧ Hid (VlK w' w.heap.size w'.heap.size k x [.int .i64 x.kind, .int .i64 x.num, .string x.text, .slice p1 x.list.length n1, .slice p1' x.names.length n1']) ∧ Below w.heap.size w w' := by
  refine (sortS_all k t vl vn w ht hwf).mono ?_
  rintro e w' ⟨p, n, p', n', rfl, hK, hb⟩
  obtain ⟨e1, e2, e3⟩ := srt_kind k t
  rw [hx] at e1 e2 e3 hK ⊢
  refine ⟨p, n, p', n', by rw [e1, e2, e3], ?_, hb⟩
  show VlK _ _ _ _ _ _
  rw [e1, e2, e3]
  exact hK
theorem specGO_putK {k : Nat} {v m x : Vl} {w wa wb : World} {p1 p1' : Option Addr} {n1 n1' : Nat} {hi : Nat} (hG : mdG k v m = x) (hwa : w.heap.size + 3 ≤ wa.heap.size) (hO : VlK wb wa.heap.size hi (k + 2) x [.int .i64 x.kind, .int .i64 x.num, .string x.text, .slice p1 x.list.length n1, .slice p1' x.names.length n1']) (hb : Below w.heap.size w wb) :
    SpecGO k v m w (.returned (.agg #[.int .i64 x.kind, .int .i64 x.num, .string x.text, .slice p1 x.list.length n1, .slice p1' x.names.length n1'])) (((((wb.setCell ⟨w.heap.size + 1 + 1, 0, none⟩ (.int .i64 x.kind)).setCell ⟨w.heap.size + 1 + 1, 1, none⟩ (.int .i64 x.num)).setCell ⟨w.heap.size + 1 + 1, 2, none⟩ (.string x.text)).setCell ⟨w.heap.size + 1 + 1, 3, none⟩ (.slice p1 x.list.length n1)).setCell ⟨w.heap.size + 1 + 1, 4, none⟩ (.slice p1' x.names.length n1')) := by
  unfold SpecGO
  rw [hG]
  refine ⟨_, _, rfl, VlR.base (by omega) _ _ _ (hO _ (fun b h1 h2 => ?_)), ((((hb.setCell (by simp; omega) _).setCell (by simp; omega) _).setCell (by simp; omega) _).setCell (by simp; omega) _).setCell (by simp; omega) _⟩
  simp only [World.setCell, Array.getElem?_modify]
  repeat rw [if_neg (by omega)]

set_option maxHeartbeats 4000000 in
theorem specMergeDo_any (k : Nat) (hk5 : 5 ≤ k) (v m : Vl) (vl vn ml mn : Value) (w : World) (hv : VlR w 0 (k + 2) v [.int .i64 v.kind, .int .i64 v.num, .string v.text, vl, vn]) (hm : VlR w 0 (k + 2) m [.int .i64 m.kind, .int .i64 m.num, .string m.text, ml, mn]) :
    Calls Try.prog 25 #[.agg #[.int .i64 v.kind, .int .i64 v.num, .string v.text, vl, vn], .agg #[.int .i64 m.kind, .int .i64 m.num, .string m.text, ml, mn]] w (SpecGO k v m w) := by
  obtain ⟨va, vc, va', vc', hq⟩ := hv.cells
  simp only [List.cons.injEq, true_and, and_true] at hq
  obtain ⟨rfl, rfl⟩ := hq
  obtain ⟨ma, mc, ma', mc', hq⟩ := hm.cells
  simp only [List.cons.injEq, true_and, and_true] at hq
  obtain ⟨rfl, rfl⟩ := hq
  have HV : Hid (∀ W, Keeps 0 w W → VlR W 0 (k + 2) v [.int .i64 v.kind, .int .i64 v.num, .string v.text, .slice va v.list.length vc, .slice va' v.names.length vc']) := fun W h => VlR.keeps h _ _ _ hv
  have HM : Hid (∀ W, Keeps 0 w W → VlR W 0 (k + 2) m [.int .i64 m.kind, .int .i64 m.num, .string m.text, .slice ma m.list.length mc, .slice ma' m.names.length mc']) := fun W h => VlR.keeps h _ _ _ hm
  clear hv hm
  go_enter Try.func25, Try.ntmps25
  go_wp2_with fail
  have hS0 : BoxM w ((((w.alloc (Obj.cells #[.int .i64 v.kind, .int .i64 v.num, .string v.text, .slice va v.list.length vc, .slice va' v.names.length vc'] 29)).alloc (Obj.cells #[.int .i64 m.kind, .int .i64 m.num, .string m.text, .slice ma m.list.length mc, .slice ma' m.names.length mc'] 29))).alloc (Obj.cells #[.int .i64 0, .int .i64 0, .string ⟨#[]⟩, .slice none 0 0, .slice none 0 0] 29)) #[.int .i64 v.kind, .int .i64 v.num, .string v.text, .slice va v.list.length vc, .slice va' v.names.length vc'] #[.int .i64 m.kind, .int .i64 m.num, .string m.text, .slice ma m.list.length mc, .slice ma' m.names.length mc'] := BoxM.start
  refine (specValueOk_any (k + 2) v _ _ _ (HV.out _ (Keeps.of_below hS0.bel (Nat.le_refl _) 0))).mono ?_
  rintro e w1 ⟨rfl, hb1⟩
  have HS1 : Hid (BoxM w w1 #[.int .i64 v.kind, .int .i64 v.num, .string v.text, .slice va v.list.length vc, .slice va' v.names.length vc'] #[.int .i64 m.kind, .int .i64 m.num, .string m.text, .slice ma m.list.length mc, .slice ma' m.names.length mc']) := hS0.on hb1
  clear hS0 hb1
  obtain ⟨v0, v1, v2, v3, v4⟩ := five_ofQ HS1.out.bv.cell
  obtain ⟨m0, m1, m2, m3, m4⟩ := five_ofQ HS1.out.bm.cell
  obtain ⟨r0, r1, r2, r3, r4⟩ := res_box HS1.out.br
  have rf := res_frozen HS1.out.br
  have hz : w.heap.size + 1 + 1 < w1.heap.size := cell_lt r0
  cases hok : okB false 6 v
  · have HG : Hid (mdG k v m = zeroV) := mdG_no hok
    clear hok
    go_wp2_with fail
    exact bodyPost_ret (v := .agg #[.int .i64 0, .int .i64 0, .string ByteArray.empty, .slice none 0 0, .slice none 0 0]) (by simp [results, Try.results25, go_sem, hz, r0, r1, r2, r3, r4]; try rfl) rfl (specGO_none HG.out (((((HS1.out.bel.setCell (by simp; omega) _).setCell (by simp; omega) _).setCell (by simp; omega) _).setCell (by simp; omega) _).setCell (by simp; omega) _))
  · have HOV : Hid (okB false 6 v = true) := hok
    have HOV2 : Hid (okB false (k + 2) v = true) := okB_le (by omega) hok
    clear hok
    go_wp2_with fail
    refine (specValueOk_any (k + 2) m _ _ _ (HM.out _ (Keeps.of_below HS1.out.bel (Nat.le_refl _) 0))).mono ?_
    rintro e w2 ⟨rfl, hb2⟩
    have HS2 : Hid (BoxM w w2 #[.int .i64 v.kind, .int .i64 v.num, .string v.text, .slice va v.list.length vc, .slice va' v.names.length vc'] #[.int .i64 m.kind, .int .i64 m.num, .string m.text, .slice ma m.list.length mc, .slice ma' m.names.length mc']) := HS1.out.on hb2
    clear hb2 HS1 v0 v1 v2 v3 v4 m0 m1 m2 m3 m4 r0 r1 r2 r3 r4 rf hz
    obtain ⟨v0, v1, v2, v3, v4⟩ := five_ofQ HS2.out.bv.cell
    obtain ⟨m0, m1, m2, m3, m4⟩ := five_ofQ HS2.out.bm.cell
    obtain ⟨r0, r1, r2, r3, r4⟩ := res_box HS2.out.br
    have rf := res_frozen HS2.out.br
    have hz : w.heap.size + 1 + 1 < w2.heap.size := cell_lt r0
    obtain ⟨s, hs⟩ : ∃ s, srt (k + 2) v = s := ⟨_, rfl⟩
    have HSS : Hid (srt (k + 2) v = s) := hs
    clear hs
    have HSV : Hid (∀ W, Keeps 0 w W → Calls Try.prog 32 #[.agg #[.int .i64 v.kind, .int .i64 v.num, .string v.text, .slice va v.list.length vc, .slice va' v.names.length vc']] W fun e w' => ∃ (p1 : Option Addr) (n1 : Nat) (p1' : Option Addr) (n1' : Nat), e = .returned (.agg #[.int .i64 s.kind, .int .i64 s.num, .string s.text, .slice p1 s.list.length n1, .slice p1' s.names.length n1']) ∧ Hid (VlK w' W.heap.size w'.heap.size (k + 2) s [.int .i64 s.kind, .int .i64 s.num, .string s.text, .slice p1 s.list.length n1, .slice p1' s.names.length n1']) ∧ Below W.heap.size W w') := fun W h => sortS_toldK (k + 2) v _ _ W (HV.out W h) (ok_wf _ _ HOV2.out) HSS.out
    cases hom : okB false 6 m
    · have HG : Hid (mdG k v m = s) := by show _ = _; rw [mdG_old HOV.out (by rw [hom]; rfl)]; exact HSS.out
      clear hom
      go_wp2_with fail
      refine (HSV.out w2 (Keeps.of_below HS2.out.bel (Nat.le_refl _) 0)).mono ?_
      rintro e w8 ⟨p8, n8, p8', n8', rfl, HK8, hb8⟩
      have HS8 : Hid (BoxM w w8 #[.int .i64 v.kind, .int .i64 v.num, .string v.text, .slice va v.list.length vc, .slice va' v.names.length vc'] #[.int .i64 m.kind, .int .i64 m.num, .string m.text, .slice ma m.list.length mc, .slice ma' m.names.length mc']) := HS2.out.on hb8
      have hz78 : w.heap.size + 3 ≤ w2.heap.size := by have := HS2.out.br.lt; omega
      clear hb8 v0 v1 v2 v3 v4 m0 m1 m2 m3 m4 r0 r1 r2 r3 r4 rf hz HS2
      obtain ⟨r0, r1, r2, r3, r4⟩ := res_box HS8.out.br
      have rf := res_frozen HS8.out.br
      have hz : w.heap.size + 1 + 1 < w8.heap.size := cell_lt r0
      go_wp2_with fail
      refine bodyPost_ret (v := .agg #[.int .i64 s.kind, .int .i64 s.num, .string s.text, .slice p8 s.list.length n8, .slice p8' s.names.length n8']) (by simp [results, Try.results25, go_sem, hz, r0, r1, r2, r3, r4]; try rfl) rfl ?_
      exact specGO_putK (wa := w2) HG.out hz78 HK8.out HS8.out.bel
    · have HOM : Hid (okB false 6 m = true) := hom
      have HOM2 : Hid (okB false (k + 2) m = true) := okB_le (by omega) hom
      have hfmd : fmB (k + 2) (mdo (k + 2) v m) = true := mdo_fm (k + 2) (k + 2) v m (Nat.le_refl _) HOV2.out HOM2.out
      have hmd := md_all (k + 2) v m _ _ _ _ w2 (HV.out _ (Keeps.of_below HS2.out.bel (Nat.le_refl _) 0)) (HM.out _ (Keeps.of_below HS2.out.bel (Nat.le_refl _) 0)) HOV2.out HOM2.out
      obtain ⟨D, hD⟩ : ∃ D, mdo (k + 2) v m = D := ⟨_, rfl⟩
      rw [hD] at hmd hfmd
      have HD : Hid (mdo (k + 2) v m = D) := hD
      have HFD : Hid (fmB (k + 2) D = true) := hfmd
      clear hom hD hfmd
      go_wp2_with fail
      refine hmd.mono ?_
      rintro e w3 ⟨p3, n3, p3', n3', rfl, hK3, hb3⟩
      have HS3 : Hid (BoxM w w3 #[.int .i64 v.kind, .int .i64 v.num, .string v.text, .slice va v.list.length vc, .slice va' v.names.length vc'] #[.int .i64 m.kind, .int .i64 m.num, .string m.text, .slice ma m.list.length mc, .slice ma' m.names.length mc']) := HS2.out.on hb3
      have hR3 : VlR w3 0 (k + 2) D [.int .i64 D.kind, .int .i64 D.num, .string D.text, .slice p3 D.list.length n3, .slice p3' D.names.length n3'] := VlR.base (Nat.zero_le _) _ _ _ (VlK.now hK3)
      obtain ⟨s1, hs1⟩ : ∃ s1, srt (k + 2) D = s1 := ⟨_, rfl⟩
      have HSR : Hid (srt (k + 2) D = s1) := hs1
      have hc4 := sortS_toldK (k + 2) D _ _ w3 hR3 (fm_wf _ _ HFD.out) hs1
      clear hmd hK3 hb3 hR3 hs1 HS2 v0 v1 v2 v3 v4 m0 m1 m2 m3 m4 r0 r1 r2 r3 r4 rf hz
      go_wp2_with fail
      refine hc4.mono ?_
      rintro e w5 ⟨p1, n1, p1', n1', rfl, HK5, hb5⟩
      have hS5 := HS3.out.on hb5
      have hR5 : VlR w5 0 (k + 2) s1 [.int .i64 s1.kind, .int .i64 s1.num, .string s1.text, .slice p1 s1.list.length n1, .slice p1' s1.names.length n1'] := VlR.base (Nat.zero_le _) _ _ _ (VlK.now HK5.out)
      obtain ⟨W5, hW5⟩ : ∃ W5, W5 = w5.alloc (Obj.cells #[.int .i64 s1.kind, .int .i64 s1.num, .string s1.text, .slice p1 s1.list.length n1, .slice p1' s1.names.length n1'] 29) := ⟨_, rfl⟩
      have hb5' : Below w5.heap.size w5 W5 := by rw [hW5]; exact (Below.refl _ _).alloc (Nat.le_refl _) _
      have HS5 : Hid (BoxM w W5 #[.int .i64 v.kind, .int .i64 v.num, .string v.text, .slice va v.list.length vc, .slice va' v.names.length vc'] #[.int .i64 m.kind, .int .i64 m.num, .string m.text, .slice ma m.list.length mc, .slice ma' m.names.length mc']) := hS5.on hb5'
      have HR5 : Hid (VlR W5 0 (k + 2) s1 [.int .i64 s1.kind, .int .i64 s1.num, .string s1.text, .slice p1 s1.list.length n1, .slice p1' s1.names.length n1']) := VlR.keeps (Keeps.of_below hb5' (Nat.le_refl _) 0) _ _ _ hR5
      have HOW5 : Hid (Owns W5 w5.heap.size #[.int .i64 s1.kind, .int .i64 s1.num, .string s1.text, .slice p1 s1.list.length n1, .slice p1' s1.names.length n1'] 29) := by rw [hW5]; exact Owns.made _ _ _
      have HO5 : Hid (VlK W5 w3.heap.size w5.heap.size (k + 2) s1 [.int .i64 s1.kind, .int .i64 s1.num, .string s1.text, .slice p1 s1.list.length n1, .slice p1' s1.names.length n1']) := VlK.same HK5.out (fun b _ h2 => hb5'.block b h2)
      have h35 : w3.heap.size ≤ w5.heap.size := hb5.size
      have hz35 : w.heap.size + 3 ≤ w3.heap.size := by have := HS3.out.br.lt; omega
      have HW5 : Hid (W5 = w5.alloc (Obj.cells #[.int .i64 s1.kind, .int .i64 s1.num, .string s1.text, .slice p1 s1.list.length n1, .slice p1' s1.names.length n1'] 29)) := hW5
      clear hc4 hb5 hb5' hS5 hR5 hW5 HK5 HS3
      go_wp2_with fail
      rw [← HW5.out]
      clear HW5
      obtain ⟨b0, b1, b2, b3, b4⟩ := five_ofQ HOW5.out.cell
      have hlt5 : w5.heap.size < W5.heap.size := cell_lt b0
      refine (specValueOk_any (k + 2) s1 _ _ W5 HR5.out).mono ?_
      rintro e w6 ⟨rfl, hb6⟩
      have HS6 : Hid (BoxM w w6 #[.int .i64 v.kind, .int .i64 v.num, .string v.text, .slice va v.list.length vc, .slice va' v.names.length vc'] #[.int .i64 m.kind, .int .i64 m.num, .string m.text, .slice ma m.list.length mc, .slice ma' m.names.length mc']) := HS5.out.on hb6
      have h56 : W5.heap.size ≤ w6.heap.size := hb6.size
      have HO6 : Hid (VlK w6 w3.heap.size w5.heap.size (k + 2) s1 [.int .i64 s1.kind, .int .i64 s1.num, .string s1.text, .slice p1 s1.list.length n1, .slice p1' s1.names.length n1']) := VlK.same HO5.out (fun b _ h2 => hb6.block b (by omega))
      obtain ⟨b0, b1, b2, b3, b4⟩ := five_ofQ (HOW5.out.below hb6 HOW5.out.lt).cell
      clear hb6 HS5 HO5 HR5 HOW5
      obtain ⟨v0, v1, v2, v3, v4⟩ := five_ofQ HS6.out.bv.cell
      obtain ⟨m0, m1, m2, m3, m4⟩ := five_ofQ HS6.out.bm.cell
      obtain ⟨r0, r1, r2, r3, r4⟩ := res_box HS6.out.br
      have rf := res_frozen HS6.out.br
      have hz : w.heap.size + 1 + 1 < w6.heap.size := cell_lt r0
      cases hos : okB false 6 s1
      · have HG : Hid (mdG k v m = s) := by show _ = _; rw [mdG_old HOV.out (by rw [HD.out, HSR.out, hos, HOM.out]; rfl)]; exact HSS.out
        clear hos
        go_wp2_with fail
        refine (HSV.out w6 (Keeps.of_below HS6.out.bel (Nat.le_refl _) 0)).mono ?_
        rintro e w8 ⟨p8, n8, p8', n8', rfl, HK8, hb8⟩
        have HS8 : Hid (BoxM w w8 #[.int .i64 v.kind, .int .i64 v.num, .string v.text, .slice va v.list.length vc, .slice va' v.names.length vc'] #[.int .i64 m.kind, .int .i64 m.num, .string m.text, .slice ma m.list.length mc, .slice ma' m.names.length mc']) := HS6.out.on hb8
        have hz78 : w.heap.size + 3 ≤ w6.heap.size := by have := HS6.out.br.lt; omega
        clear hb8 v0 v1 v2 v3 v4 m0 m1 m2 m3 m4 r0 r1 r2 r3 r4 rf hz HS6
        obtain ⟨r0, r1, r2, r3, r4⟩ := res_box HS8.out.br
        have rf := res_frozen HS8.out.br
        have hz : w.heap.size + 1 + 1 < w8.heap.size := cell_lt r0
        go_wp2_with fail
        refine bodyPost_ret (v := .agg #[.int .i64 s.kind, .int .i64 s.num, .string s.text, .slice p8 s.list.length n8, .slice p8' s.names.length n8']) (by simp [results, Try.results25, go_sem, hz, r0, r1, r2, r3, r4]; try rfl) rfl ?_
        exact specGO_putK (wa := w6) HG.out hz78 HK8.out HS8.out.bel
      · have HG : Hid (mdG k v m = s1) := by show _ = _; rw [mdG_new HOV.out HOM.out (by rw [HD.out, HSR.out]; exact hos), HD.out, HSR.out]
        clear hos
        go_wp2_with fail
        refine bodyPost_ret (v := .agg #[.int .i64 s1.kind, .int .i64 s1.num, .string s1.text, .slice p1 s1.list.length n1, .slice p1' s1.names.length n1']) (by simp [results, Try.results25, go_sem, hz, r0, r1, r2, r3, r4]; try rfl) rfl ?_
        exact specGO_putK (wa := w3) HG.out hz35 HO6.out HS6.out.bel

end Go.Proofs.Ytdaohfeajicamaa
