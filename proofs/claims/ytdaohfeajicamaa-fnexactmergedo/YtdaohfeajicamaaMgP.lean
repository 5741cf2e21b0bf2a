
/-
  DERIVED. WHAT MergeDo MAKES OF TWO VALUES; that it is fit to be a form. No walk.
-/
import Derived.Test.YtdaohfeajicamaaSrtO
import Derived.Test.YtdaohfeajicamaaSrtI
import Derived.Test.YtdaohfeajicamaaTreeGet
namespace Go.Proofs.Ytdaohfeajicamaa
set_option linter.unusedVariables false
set_option linter.unusedSimpArgs false

/-- What was, and is not said of. -/
def wasP (v m : Vl) (l : List Pr) : List Pr := if v.kind = 5 then l.filter (fun p => (treeO m p.1).isNone) else []
/-- What is said, but nothing. -/
def saysQ (l : List Pr) : List Pr := l.filter (fun p => decide (p.2.kind ≠ 0))
def prsOf (t : Vl) : List Pr := t.names.zip t.list
def treeV (P : List Pr) : Vl := ⟨5, 0, ByteArray.empty, P.map (·.2), P.map (·.1)⟩
def mdo : Nat → Vl → Vl → Vl
  | 0, _, m => m
  | k + 1, v, m => if m.kind = 5 then treeV (wasP v m (prsOf v) ++ (saysQ (prsOf m)).map (fun p => (p.1, mdo k (vlOf (treeO v p.1)) p.2))) else m
theorem mdo_tree {k : Nat} {v m : Vl} (h : m.kind = 5) : mdo (k + 1) v m = treeV (wasP v m (prsOf v) ++ (saysQ (prsOf m)).map (fun p => (p.1, mdo k (vlOf (treeO v p.1)) p.2))) := by rw [mdo, if_pos h]
theorem mdo_else {k : Nat} {v m : Vl} (h : m.kind ≠ 5) : mdo (k + 1) v m = m := by rw [mdo, if_neg h]

theorem fm_wf : ∀ (k : Nat) (t : Vl), fmB k t = true → wfB k t = true
  | 0, _, h => by simp [fmB] at h
  | k + 1, t, h => by
    obtain ⟨h1, h2, _, _, _, _, h7, h8⟩ := fm_parts h
    rw [wfB]
    simp only [Bool.and_eq_true, List.all_eq_true, decide_eq_true_eq, Bool.or_eq_true]
    refine ⟨⟨⟨h1, h2⟩, ?_⟩, fun x hx => fm_wf k x (h8 x hx)⟩
    by_cases h5 : t.kind = 5
    · exact Or.inr (h7 h5)
    · exact Or.inl h5
theorem fm_srt : ∀ (d k : Nat) (t : Vl), d ≤ k → fmB d t = true → fmB d (srt k t) = true
  | 0, _, _, _, h => by simp [fmB] at h
  | d + 1, 0, _, hd, _ => absurd hd (by omega)
  | d + 1, k + 1, t, hd, h => by
    obtain ⟨h1, h2, h3, h4, h5, h6, h7, h8⟩ := fm_parts h
    by_cases e5 : t.kind = 5
    · obtain ⟨hl, ho⟩ := h7 e5
      have hlen : (sortP (prsS k t)).length = t.list.length := by rw [(sortP_perm _).length_eq, prsS_len hl]
      have e : srt (k + 1) t = ⟨t.kind, t.num, t.text, (sortP (prsS k t)).map (·.2), (sortP (prsS k t)).map (·.1)⟩ := srt_tree e5
      rw [e]
      refine fm_mk ?_ h2 h3 h4 h5 ?_ (fun _ => ⟨?_, ?_⟩) (fun x hx => ?_)
      · show partsB t.kind t.num t.text ((sortP (prsS k t)).map (·.2)).length ((sortP (prsS k t)).map (·.1)).length = true
        rw [List.length_map, List.length_map, hlen]
        rw [hl] at h1
        exact h1
      · show ((sortP (prsS k t)).map (·.2)).length ≤ 1000
        rw [List.length_map, hlen]; exact h6
      · show ((sortP (prsS k t)).map (·.1)).length = ((sortP (prsS k t)).map (·.2)).length
        rw [List.length_map, List.length_map]
      · show onceB [] ((sortP (prsS k t)).map (·.1)) = true
        rw [onceB_perm ((sortP_perm (prsS k t)).map (·.1)), prsS_fst hl]
        exact ho
      · have hx2 : x ∈ (prsS k t).map (·.2) := ((sortP_perm (prsS k t)).map (·.2)).mem_iff.1 hx
        rw [prsS_snd hl] at hx2
        obtain ⟨y, hy, rfl⟩ := List.mem_map.1 hx2
        exact fm_srt d k y (by omega) (h8 y hy)
    · rw [srt_else e5]
      refine fm_mk ?_ h2 h3 h4 h5 ?_ (fun e => absurd e e5) (fun x hx => ?_)
      · show partsB t.kind t.num t.text (t.list.map (srt k)).length t.names.length = true
        rw [List.length_map]; exact h1
      · show (t.list.map (srt k)).length ≤ 1000
        rw [List.length_map]; exact h6
      · obtain ⟨y, hy, rfl⟩ := List.mem_map.1 hx
        exact fm_srt d k y (by omega) (h8 y hy)

theorem ok_kid {d : Nat} {t x : Vl} (h : okB false (d + 1) t = true) (hx : x ∈ t.list) : okB false d x = true := by
  rw [okB_succ] at h
  simp only [Bool.and_eq_true, List.all_eq_true] at h
  exact h.2 x hx
theorem ok_len12 {d : Nat} {t : Vl} (h : okB false (d + 1) t = true) : t.list.length ≤ 12 := by
  have h6 := ok_fm _ _ h
  rw [okB_succ] at h
  simp only [Bool.and_eq_true] at h
  have hpl := h.1.1.1
  unfold plainB at hpl
  by_cases k0 : t.kind = 0
  · simp only [k0, if_true, Bool.and_eq_true, decide_eq_true_eq] at hpl; omega
  by_cases k1 : t.kind = 1
  · simp [k1] at hpl; simp [hpl]
  by_cases k2 : t.kind = 2
  · simp [k2] at hpl; simp [hpl]
  by_cases k3 : t.kind = 3
  · simp [k3] at hpl; simp [hpl]
  by_cases k4 : t.kind = 4
  · simp [k4] at hpl; omega
  by_cases k5 : t.kind = 5
  · simp [k5] at hpl; omega
  · have := (fm_parts h6).2.1; omega
theorem ok_zero {d : Nat} (h : 0 < d) : okB false d zeroV = true := by
  obtain ⟨d, rfl⟩ : ∃ e, d = e + 1 := ⟨d - 1, by omega⟩
  rw [okB_succ]
  simp [zeroV, plainB, onceB]
theorem ok_vlOf {d : Nat} {v : Vl} {s : ByteArray} (h : okB false (d + 1) v = true) (hd : 0 < d) : okB false d (vlOf (treeO v s)) = true := by
  cases ho : treeO v s with
  | none => exact ok_zero hd
  | some x =>
    unfold treeO at ho
    split at ho
    · exact ok_kid h (findL_mem _ _ _ _ ho)
    · simp at ho
theorem findL_none : ∀ (ns : List ByteArray) (xs : List Vl) (s : ByteArray), ns.length = xs.length → findL ns xs s = none → s ∉ ns
  | [], _, _, _, _ => by simp
  | n :: ns, [], s, h, _ => by simp at h
  | n :: ns, x :: xs, s, h, hn => by
    simp only [findL] at hn
    split at hn
    · simp at hn
    · rename_i he
      intro hm
      rcases List.mem_cons.1 hm with rfl | hm
      · exact he (by simp)
      · exact findL_none ns xs s (by simpa using h) hn hm

theorem mem_prs {t : Vl} {p : Pr} (h : p ∈ prsOf t) : p.1 ∈ t.names ∧ p.2 ∈ t.list := List.of_mem_zip h
theorem mdo_fm : ∀ (d k : Nat) (v m : Vl), d ≤ k → okB false d v = true → okB false d m = true → fmB d (mdo k v m) = true
  | 0, _, _, _, _, h, _ => by simp [okB] at h
  | d + 1, 0, _, _, hd, _, _ => absurd hd (by omega)
  | d + 1, k + 1, v, m, hd, hv, hm => by
    by_cases h5 : m.kind = 5
    · rw [mdo_tree h5]
      obtain ⟨hml, hmo⟩ := ok_five h5 hm
      have hmo2 := (onceB_iff _ _).1 hmo
      obtain ⟨P, hP⟩ : ∃ P, wasP v m (prsOf v) = P := ⟨_, rfl⟩
      obtain ⟨Q, hQ⟩ : ∃ Q, saysQ (prsOf m) = Q := ⟨_, rfl⟩
      rw [hP, hQ]
      have hPm : ∀ p ∈ P, v.kind = 5 ∧ p ∈ prsOf v ∧ treeO m p.1 = none := fun p hp => by
        rw [← hP] at hp
        unfold wasP at hp
        split at hp
        · rw [List.mem_filter] at hp
          exact ⟨by assumption, hp.1, by simpa using hp.2⟩
        · simp at hp
      have hQm : ∀ p ∈ Q, p ∈ prsOf m := fun p hp => by
        rw [← hQ] at hp
        unfold saysQ at hp
        rw [List.mem_filter] at hp
        exact hp.1
      have hPl : P.length ≤ 12 := by
        have h1 := ok_len12 hv
        have h2 : P.length ≤ (prsOf v).length := by
          rw [← hP]
          unfold wasP
          split
          · exact List.length_filter_le _ _
          · exact Nat.zero_le _
        have h3 : (prsOf v).length ≤ v.list.length := by unfold prsOf; rw [List.length_zip]; exact Nat.min_le_right _ _
        omega
      have hQl : Q.length ≤ 12 := by
        have h1 := ok_len12 hm
        have h2 : Q.length ≤ (prsOf m).length := by rw [← hQ]; unfold saysQ; exact List.length_filter_le _ _
        have h3 : (prsOf m).length ≤ m.list.length := by unfold prsOf; rw [List.length_zip]; exact Nat.min_le_right _ _
        omega
      have hPn : (P.map (·.1)).Pairwise (· ≠ ·) := by
        rw [← hP]
        unfold wasP
        split
        · rename_i hv5
          obtain ⟨hvl, hvo⟩ := ok_five hv5 hv
          have h1 : ((prsOf v).map (·.1)).Pairwise (· ≠ ·) := by
            unfold prsOf
            rw [List.map_fst_zip (by omega)]
            exact ((onceB_iff _ _).1 hvo).2
          rw [List.pairwise_map] at h1 ⊢
          exact h1.sublist List.filter_sublist
        · exact List.Pairwise.nil
      have hQn : (Q.map (·.1)).Pairwise (· ≠ ·) := by
        have h1 : ((prsOf m).map (·.1)).Pairwise (· ≠ ·) := by
          unfold prsOf
          rw [List.map_fst_zip (by omega)]
          exact hmo2.2
        rw [← hQ]
        unfold saysQ
        rw [List.pairwise_map] at h1 ⊢
        exact h1.sublist List.filter_sublist
      have hnames : (P ++ Q.map (fun p => (p.1, mdo k (vlOf (treeO v p.1)) p.2))).map (·.1) = P.map (·.1) ++ Q.map (·.1) := by
        rw [List.map_append, List.map_map]
        rfl
      refine fm_mk (t := treeV _) ?_ (by show (0 : Int) ≤ 5 ∧ (5 : Int) ≤ 5; omega) (fun e => by simp [treeV] at e) (by show (-2147483647 : Int) ≤ 0 ∧ (0 : Int) ≤ 2147483647; omega) (by show ByteArray.empty.size ≤ 40; decide) ?_ (fun _ => ⟨?_, ?_⟩) (fun x hx => ?_)
      · show partsB 5 0 ByteArray.empty _ _ = true
        unfold partsB
        simp
      · show (List.map _ _).length ≤ 1000
        rw [List.length_map, List.length_append, List.length_map]
        omega
      · show (List.map _ _).length = (List.map _ _).length
        rw [List.length_map, List.length_map]
      · show onceB [] (List.map (fun q : Pr => q.1) _) = true
        rw [hnames, onceB_iff]
        refine ⟨fun s hs => ⟨?_, by simp⟩, ?_⟩
        · rcases List.mem_append.1 hs with hs | hs
          · obtain ⟨p, hp, rfl⟩ := List.mem_map.1 hs
            obtain ⟨hv5, hpv, _⟩ := hPm p hp
            exact (((onceB_iff _ _).1 (ok_five hv5 hv).2).1 _ (mem_prs hpv).1).1
          · obtain ⟨p, hp, rfl⟩ := List.mem_map.1 hs
            exact (hmo2.1 _ (mem_prs (hQm p hp)).1).1
        · rw [List.pairwise_append]
          refine ⟨hPn, hQn, fun a ha b hb => ?_⟩
          obtain ⟨p, hp, rfl⟩ := List.mem_map.1 ha
          obtain ⟨q, hq, rfl⟩ := List.mem_map.1 hb
          obtain ⟨_, _, hno⟩ := hPm p hp
          unfold treeO at hno
          rw [if_pos h5] at hno
          intro e
          exact findL_none _ _ _ hml hno (by rw [e]; exact (mem_prs (hQm q hq)).1)
      · have hx' : x ∈ (P ++ Q.map (fun p => (p.1, mdo k (vlOf (treeO v p.1)) p.2))).map (·.2) := hx
        obtain ⟨p, hp, rfl⟩ := List.mem_map.1 hx'
        rcases List.mem_append.1 hp with hp | hp
        · obtain ⟨_, hpv, _⟩ := hPm p hp
          exact ok_fm _ _ (ok_kid hv (mem_prs hpv).2)
        · obtain ⟨q, hq, rfl⟩ := List.mem_map.1 hp
          have h1 := ok_kid hm (mem_prs (hQm q hq)).2
          have hd0 : 0 < d := by
            cases d with
            | zero => simp [okB] at h1
            | succ d => omega
          exact mdo_fm d k _ _ (by omega) (ok_vlOf hv hd0) h1
    · rw [mdo_else h5]
      exact ok_fm _ _ hm

end Go.Proofs.Ytdaohfeajicamaa
