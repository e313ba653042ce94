/-
  Mathematics of the document's Source: scheme and host.
-/
import Derived.Test.YtempmmkdppelaaaGreatDoorVMM
namespace Go.Proofs.YtempmmkdppelaaaGreatDoor
open Go.RowKit
def rschP (s : List UInt8) : Option Src := if 0 < rsch s ∧ s.drop (rsch s) = [58] then some { kind := 4, scheme := lowS (mkB (s.take (rsch s))) } else none
/-- a text begins with a letter -/
def hdB (s : List UInt8) : Bool := match s with | [] => false | b :: _ => letB b
theorem rsch_hd (s : List UInt8) : rsch s = if hdB s = true then (s.takeWhile (plainB [43, 45, 46])).length else 0 := rfl
theorem sch_pos {s : List UInt8} (h : 0 < rsch s) : hdB s = true ∧ rsch s = (s.takeWhile (plainB [43, 45, 46])).length := by
  rw [rsch_hd] at h ⊢
  by_cases hh : hdB s = true
  · exact ⟨hh, if_pos hh⟩
  · rw [if_neg hh] at h; omega
theorem sch_take {s : List UInt8} (h : 0 < rsch s) : schemeB (s.take (rsch s)) = true := by
  obtain ⟨h1, h2⟩ := sch_pos h
  have h3 : s.take (rsch s) = s.takeWhile (plainB [43, 45, 46]) := by
    rw [h2]
    exact (List.prefix_iff_eq_take.1 (List.takeWhile_prefix _)).symm
  unfold schemeB madeB
  rw [h3]
  cases s with
  | nil => cases h1
  | cons b s =>
    have h1 : letB b = true := h1
    have hp : plainB [43, 45, 46] b = true := plain_l h1
    rw [List.takeWhile_cons, hp, if_pos rfl]
    simp only [h1, Bool.true_and]
    have := all_while (plainB [43, 45, 46]) (b :: s)
    rw [List.takeWhile_cons, hp, if_pos rfl] at this
    rw [this]; rfl
/-- a scheme and behind it what is none of its bytes -/
theorem sch_of {t E : List UInt8} (h : schemeB t = true) (hE : ∀ b, E.head? = some b → plainB [43, 45, 46] b = false) : rsch (t ++ E) = t.length ∧ 0 < t.length := by
  unfold schemeB madeB at h
  rw [Bool.and_eq_true, Bool.and_eq_true] at h
  cases t with
  | nil => simp at h
  | cons b t =>
    refine ⟨?_, by simp⟩
    rw [rsch_hd, if_pos (show hdB ((b :: t) ++ E) = true from h.1), take_while_cat h.2.1 hE]
theorem rschP_eq (s : List UInt8) : rschP s = rdK s 3 := by
  have h58 : plainB [43, 45, 46] 58 = false := by decide
  unfold rdK rdAt
  simp only
  unfold rschP schemeP
  rcases List.eq_nil_or_concat s with rfl | ⟨l, b, rfl⟩
  · rfl
  rw [List.concat_eq_append]
  by_cases hb : b = 58
  · subst hb
    rw [suf_snoc, tsuf_snoc, beq_self_eq_true, Bool.true_and]
    by_cases hs : schemeB l = true
    · obtain ⟨h1, h2⟩ := sch_of (E := [58]) hs (fun b hb => by simp at hb; rw [← hb]; exact h58)
      rw [h1, if_pos hs, if_pos ⟨h2, List.drop_left⟩, List.take_left]
      rfl
    · rw [if_neg hs, if_neg]
      · rfl
      · rintro ⟨h1, h2⟩
        have h3 := sch_take h1
        have h4 : l.length = rsch (l ++ [58]) := by
          have := congrArg List.length h2
          rw [List.length_drop] at this
          simp at this; omega
        rw [← h4, List.take_left] at h3
        exact hs h3
  · have h1 : ¬ (0 < rsch (l ++ [b]) ∧ (l ++ [b]).drop (rsch (l ++ [b])) = [58]) := by
      rintro ⟨_, h2⟩
      have h3 : (l ++ [b]).getLast? = some 58 := by
        rw [← List.take_append_drop (rsch (l ++ [b])) (l ++ [b]), h2]; simp
      simp at h3
      exact hb h3
    rw [if_neg h1, suf_snoc, beq_eq_false_iff_ne.2 (fun e => hb e.symm), Bool.false_and, if_neg (by simp)]
    rfl
/-- a host's scheme, and what stands behind it -/
def rhX (s : List UInt8) : Src × List UInt8 := if 0 < rsch s ∧ (s.drop (rsch s)).take 3 = [58, 47, 47] then ({ scheme := lowS (mkB (s.take (rsch s))) }, s.drop (rsch s + 3)) else ({}, s)
theorem occ3 (s : List UInt8) (i : Nat) : Lib.occAt s [58, 47, 47] i = true ↔ (s.drop i).take 3 = [58, 47, 47] := by
  unfold Lib.occAt
  rw [List.isPrefixOf_iff_prefix, List.prefix_iff_eq_take]
  exact eq_comm
theorem occ_head {s : List UInt8} {i : Nat} (h : Lib.occAt s [58, 47, 47] i = true) : s[i]? = some 58 := by
  have h1 := (occ3 s i).1 h
  have h2 : ((s.drop i).take 3)[0]? = some 58 := by rw [h1]; rfl
  rw [List.getElem?_take, List.getElem?_drop] at h2
  simpa using h2
theorem sch_head (s : List UInt8) (i : Nat) (h : s[i]? = some 58) : ∀ b, (s.drop i).head? = some b → plainB [43, 45, 46] b = false := by
  intro b hb
  rw [List.head?_drop, h] at hb
  cases hb
  decide
theorem index_occ {s sub : List UInt8} {i : Nat} (h : Lib.index s sub = i) : Lib.occAt s sub i = true := by
  rcases Lib.index_spec s sub with ⟨h1, _⟩ | ⟨j, h1, _, h3, _⟩
  · omega
  · obtain rfl : i = j := by omega
    exact h3
theorem rhX_eq (s : List UInt8) : rhX s = hostX s := by
  unfold rhX hostX
  by_cases hc : 0 < rsch s ∧ (s.drop (rsch s)).take 3 = [58, 47, 47]
  · rw [if_pos hc]
    have hocc := (occ3 s _).2 hc.2
    have hlen : rsch s ≤ s.length := by
      rcases Lib.occAt_room hocc with h | h
      · omega
      · cases h
    have hidx : Lib.index s [58, 47, 47] = rsch s := by
      refine Lib.index_first hlen hocc fun j hj => ?_
      rw [Bool.eq_false_iff]
      intro ho
      have h1 := occ_head ho
      have h2 := sch_take hc.1
      unfold schemeB madeB at h2
      rw [Bool.and_eq_true, Bool.and_eq_true] at h2
      have h3 : (s.take (rsch s))[j]? = some 58 := by rw [List.getElem?_take, if_pos hj, h1]
      have h4 := List.all_eq_true.1 h2.2.1 58 (List.mem_of_getElem? h3)
      exact absurd h4 (by decide)
    have hcut : Lib.cut s [58, 47, 47] = (s.take (rsch s), s.drop (rsch s + 3), true) := by
      unfold Lib.cut
      rw [hidx, if_pos (by omega)]
      rfl
    rw [hcut]
    simp only
    rw [sch_take hc.1, if_pos (show (true && true) = true from rfl)]
    rfl
  · rw [if_neg hc]
    unfold Lib.cut
    split
    · rename_i hi
      simp only [Bool.true_and]
      rw [if_neg]
      intro hs
      have hge : Lib.index s [58, 47, 47] = ((Lib.index s [58, 47, 47]).toNat : Int) := by omega
      have hocc : Lib.occAt s [58, 47, 47] (Lib.index s [58, 47, 47]).toNat = true := index_occ hge
      generalize (Lib.index s [58, 47, 47]).toNat = i at *
      have hd := List.take_append_drop i s
      obtain ⟨h1, h2⟩ := sch_of (E := s.drop i) hs (sch_head s i (occ_head hocc))
      rw [hd] at h1
      have hlen : i ≤ s.length := by
        rcases Lib.occAt_room hocc with h | h
        · omega
        · cases h
      rw [List.length_take, Nat.min_eq_left hlen] at h1 h2
      exact hc ⟨by omega, by rw [h1]; exact (occ3 s i).1 hocc⟩
    · simp
end Go.Proofs.YtempmmkdppelaaaGreatDoor
