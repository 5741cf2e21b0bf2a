
/-
  DERIVED. THE OTHER SIDE's SORTED VALUE: where the next name is put in among those that are there. No walk.
-/
import Derived.Test.YtdaohfeajicamaaSrtO
namespace Go.Proofs.Ytdaohfeajicamaa
set_option linter.unusedVariables false
set_option linter.unusedSimpArgs false

/-- What is known of the list and the names, i of them done. -/
def DoneS (k : Nat) (t : Vl) (i : Nat) (L : List Vl) (N : List ByteArray) : Prop :=
  (t.kind ≠ 5 → L = (t.list.take i).map (srt k) ∧ N = []) ∧
  (t.kind = 5 → ∃ Q : List Pr, L = Q.map (·.2) ∧ N = Q.map (·.1) ∧ Q.Pairwise (fun a b => bLt a.1 b.1 = true) ∧ Q.Perm ((prsS k t).take i))

def nameAt (t : Vl) (i : Nat) : ByteArray := (t.names[i]?).getD ⟨#[]⟩
theorem nameAt_eq {t : Vl} {i : Nat} (h : i < t.names.length) : nameAt t i = t.names[i] := by unfold nameAt; rw [List.getElem?_eq_getElem h]; rfl
/-- All names from j on are greater. -/
def AboveJ (t : Vl) (N : List ByteArray) (i j : Nat) : Prop := t.kind = 5 → N.length = i ∧ ∀ (q : Nat) (hq : q < N.length), j ≤ q → bLt (nameAt t i) N[q] = true
/-- .. and the one ahead is less. -/
def MeetJ (t : Vl) (N : List ByteArray) (i j : Nat) : Prop := t.kind = 5 → N.length = i ∧ (∀ (q : Nat) (hq : q < N.length), j ≤ q → bLt (nameAt t i) N[q] = true) ∧ ∀ (q : Nat) (hq : q < N.length), q + 1 = j → bLt N[q] (nameAt t i) = true

theorem above_start {k i : Nat} {t : Vl} {L : List Vl} {N : List ByteArray} (h : DoneS k t i L N) (hl : L.length = i) : AboveJ t N i i := fun h5 => by
  obtain ⟨Q, rfl, rfl, _, _⟩ := h.2 h5
  rw [List.length_map] at hl
  exact ⟨by rw [List.length_map]; exact hl, fun q hq hj => by rw [List.length_map] at hq; omega⟩
theorem above_next {t : Vl} {N : List ByteArray} {i j : Nat} (h : AboveJ t N i (j + 1)) (hj : j < N.length) (hb : bLt (nameAt t i) N[j] = true) : AboveJ t N i j := fun h5 => by
  obtain ⟨h1, h2⟩ := h h5
  refine ⟨h1, fun q hq hjq => ?_⟩
  rcases Nat.lt_or_ge j q with h3 | h3
  · exact h2 q hq h3
  · obtain rfl : q = j := by omega
    exact hb
theorem meet_zero {t : Vl} {N : List ByteArray} {i : Nat} (h : AboveJ t N i 0) : MeetJ t N i 0 := fun h5 => ⟨(h h5).1, (h h5).2, fun q hq h => absurd h (by omega)⟩
theorem meet_no {t : Vl} {N : List ByteArray} {i j : Nat} (h : t.kind ≠ 5) : MeetJ t N i j := fun h5 => absurd h5 h
theorem meet_stop {t : Vl} {N : List ByteArray} {i j : Nat} (h : AboveJ t N i (j + 1)) (hj : j < N.length) (hb : bLt N[j] (nameAt t i) = true) : MeetJ t N i (j + 1) := fun h5 => ⟨(h h5).1, (h h5).2, fun q hq he => by
  obtain rfl : q = j := by omega
  exact hb⟩
theorem bLt_tri (a b : ByteArray) (h : a ≠ b) (hn : ¬ bLt a b = true) : bLt b a = true := by
  by_cases h1 : bLt b a = true
  · exact h1
  · exact absurd (bLt_total (by simpa using hn) (by simpa using h1)) h
/-- The names that are there are others. -/
theorem done_other {k i : Nat} {t : Vl} {L : List Vl} {N : List ByteArray} (h : DoneS k t i L N) (h5 : t.kind = 5) (hl : t.names.length = t.list.length) (ho : onceB [] t.names = true) (hi : i < t.list.length) {j : Nat} (hj : j < N.length) : N[j] ≠ nameAt t i := by
  obtain ⟨Q, _, hN, _, hp⟩ := h.2 h5
  have hm : N[j] ∈ Q.map (·.1) := by rw [← hN]; exact List.getElem_mem hj
  have hp2 := hp.map (·.1)
  rw [List.map_take, prsS_fst hl] at hp2
  have hm2 := hp2.mem_iff.1 hm
  obtain ⟨q, hq, he⟩ := List.mem_iff_getElem.1 hm2
  rw [List.length_take] at hq
  rw [List.getElem_take] at he
  have hd := ((onceB_iff t.names []).1 ho).2
  rw [List.pairwise_iff_getElem] at hd
  rw [nameAt_eq (by omega), ← he]
  exact hd q i (by omega) (by omega) (by omega)

theorem done_step {k i j : Nat} {t : Vl} {L : List Vl} {N : List ByteArray} (h : DoneS k t i L N) (hl : L.length = i) (hi : i < t.list.length) (hj : j ≤ i) (hj5 : t.kind ≠ 5 → j = i) (hm : MeetJ t N i j) (hnl : t.kind = 5 → t.names.length = t.list.length) :
    DoneS k t (i + 1) (insAt L j (srt k t.list[i])) (if t.kind = 5 then insAt N j (nameAt t i) else N) := by
  refine ⟨fun h5 => ?_, fun h5 => ?_⟩
  · obtain ⟨h1, h2⟩ := h.1 h5
    rw [if_neg h5]
    refine ⟨?_, h2⟩
    have e1 : insAt L i (srt k t.list[i]) = L ++ [srt k t.list[i]] := by have := insAt_end L (srt k t.list[i]); rw [hl] at this; exact this
    rw [hj5 h5, e1, List.take_succ_eq_append_getElem hi, List.map_append, ← h1]
    rfl
  · obtain ⟨Q, hL, hN, hs, hp⟩ := h.2 h5
    rw [if_pos h5]
    have hn := hnl h5
    have hQ : Q.length = i := by rw [← hl, hL, List.length_map]
    have hpi : i < (prsS k t).length := by rw [prsS_len hn]; exact hi
    have he : (prsS k t)[i] = (nameAt t i, srt k t.list[i]) := by
      rw [nameAt_eq (by omega)]
      have e2 : (prsS k t)[i]? = some (t.names[i]'(by omega), srt k t.list[i]) := by
        show (t.names.zip (t.list.map (srt k)))[i]? = _
        rw [List.getElem?_eq_getElem (by rw [List.length_zip, List.length_map]; omega), List.getElem_zip, List.getElem_map]
      rw [List.getElem?_eq_getElem hpi] at e2
      exact Option.some.inj e2
    obtain ⟨_, m1, m2⟩ := hm h5
    refine ⟨insAt Q j (nameAt t i, srt k t.list[i]), by rw [hL, insAt_map], by rw [hN, insAt_map], ins_sorted hs (fun y hy => ?_) (fun y hy => ?_), ?_⟩
    · rcases Nat.eq_zero_or_pos j with h0 | h0
      · rw [h0] at hy; simp at hy
      · obtain ⟨j', rfl⟩ : ∃ j', j = j' + 1 := ⟨j - 1, by omega⟩
        have hjq : j' < Q.length := by omega
        refine less_ahead hs hjq ?_ y hy
        have h1 := m2 j' (by rw [hN, List.length_map]; exact hjq) rfl
        simp only [hN, List.getElem_map] at h1
        exact h1
    · obtain ⟨q, hq, rfl⟩ := List.mem_iff_getElem.1 hy
      rw [List.length_drop] at hq
      rw [List.getElem_drop]
      have h1 := m1 (j + q) (by rw [hN, List.length_map]; omega) (by omega)
      simp only [hN, List.getElem_map] at h1
      exact h1
    · refine (ins_perm Q j _).trans ?_
      rw [List.take_succ_eq_append_getElem hpi, he]
      exact List.Perm.append_right _ hp

theorem done_end {k : Nat} {t : Vl} {L : List Vl} {N : List ByteArray} (h : DoneS k t t.list.length L N) (hn : t.kind ≠ 5 → t.names.length = 0) (h5l : t.kind = 5 → t.names.length = t.list.length) :
    L = (srt (k + 1) t).list ∧ N = (srt (k + 1) t).names ∧ ∀ s ∈ N, s ∈ t.names := by
  by_cases h5 : t.kind = 5
  · obtain ⟨Q, hL, hN, hs, hp⟩ := h.2 h5
    have hl := h5l h5
    rw [← prsS_len hl, List.take_length] at hp
    have hq := sortP_unique hp hs
    have e : srt (k + 1) t = ⟨t.kind, t.num, t.text, (sortP (prsS k t)).map (·.2), (sortP (prsS k t)).map (·.1)⟩ := srt_tree h5
    rw [e, ← hq]
    refine ⟨hL, hN, fun s hs' => ?_⟩
    rw [hN] at hs'
    have hm := (hp.map (·.1)).mem_iff.1 hs'
    rw [prsS_fst hl] at hm
    exact hm
  · obtain ⟨h1, h2⟩ := h.1 h5
    have hn0 : t.names = [] := List.eq_nil_of_length_eq_zero (hn h5)
    rw [srt_else h5, List.take_length] at *
    exact ⟨h1, by rw [h2, hn0], fun s hs' => by rw [h2] at hs'; cases hs'⟩

end Go.Proofs.Ytdaohfeajicamaa
