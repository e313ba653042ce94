/-
  Mathematics of the document's Source: quoted.
-/
import Derived.Test.YtempmmkdppelaaaGreatDoorV4M
namespace Go.Proofs.YtempmmkdppelaaaGreatDoor
open Go.RowKit
/-- what stands between marks, read -/
def quotT (t : ByteArray) : Option Src :=
  if keywordB (lowS t) = true then some { kind := 1, text := lowS t }
  else if 6 < t.size ∧ ((lowS t).extract 0 6).toList = [110, 111, 110, 99, 101, 45] ∧ rcodeB (t.extract 6 t.size).data.toList = true then some { kind := 2, text := t.extract 6 t.size }
  else if 7 < t.size ∧ (((lowS t).extract 0 7).toList = [115, 104, 97, 50, 53, 54, 45] ∨ ((lowS t).extract 0 7).toList = [115, 104, 97, 51, 56, 52, 45] ∨ ((lowS t).extract 0 7).toList = [115, 104, 97, 53, 49, 50, 45]) ∧ rcodeB (t.extract 7 t.size).data.toList = true then some { kind := 3, text := t.extract 7 t.size, scheme := (lowS t).extract 0 6 }
  else none
def quotP (s : List UInt8) : Option Src := (refM s).bind fun t => quotT (mkB t)
theorem suf_snoc (l : List UInt8) (b c : UInt8) : Lib.hasSuffix (l ++ [b]) [c] = (c == b) := by
  unfold Lib.hasSuffix List.isSuffixOf
  simp [List.isPrefixOf]
theorem suf_nil (c : UInt8) : Lib.hasSuffix [] [c] = false := by
  unfold Lib.hasSuffix List.isSuffixOf
  simp [List.isPrefixOf]
theorem tsuf_snoc (l : List UInt8) (c : UInt8) : Lib.trimSuffix (l ++ [c]) [c] = l := by
  unfold Lib.trimSuffix
  rw [suf_snoc, beq_self_eq_true, if_pos rfl]
  simp
theorem tsuf_ne (l : List UInt8) {b c : UInt8} (h : b ≠ c) : Lib.trimSuffix (l ++ [b]) [c] = l ++ [b] := by
  unfold Lib.trimSuffix
  rw [suf_snoc, if_neg (by simp; exact fun e => h e.symm)]
theorem marked_ref (s beg : List UInt8) : markedP s beg = (refM s).bind fun t => if beg.length ≤ t.length ∧ sameB (t.take beg.length) beg = true then some (t.drop beg.length) else none := by
  cases s with
  | nil => rfl
  | cons b r =>
    by_cases hb : b = 39
    · subst hb
      have hp : Lib.hasPrefix (39 :: r) [39] = true := by simp [Lib.hasPrefix, List.isPrefixOf]
      have ht : Lib.trimPrefix (39 :: r) [39] = r := by unfold Lib.trimPrefix; rw [hp, if_pos rfl]; rfl
      unfold markedP
      rw [hp, ht]
      dsimp only
      rcases List.eq_nil_or_concat r with rfl | ⟨r0, c, rfl⟩
      · rw [suf_nil]
        simp [refM]
      · rw [List.concat_eq_append, suf_snoc]
        have hl : (39 :: (r0 ++ [c])).length = r0.length + 2 := by simp
        have hlast : (39 :: (r0 ++ [c]))[(39 :: (r0 ++ [c])).length - 1]? = some c := by rw [hl]; simp
        have hmid : ((39 :: (r0 ++ [c])).drop 1).take ((39 :: (r0 ++ [c])).length - 2) = r0 := by rw [hl]; simp
        unfold refM
        rw [hlast, hmid]
        by_cases hc : c = 39
        · subst hc
          rw [tsuf_snoc, if_pos (show 2 ≤ (39 :: (r0 ++ [39])).length ∧ _ from ⟨by rw [hl]; omega, rfl, rfl⟩)]
          simp
        · rw [if_neg (show ¬ (2 ≤ (39 :: (r0 ++ [c])).length ∧ _) from fun h => hc (Option.some.inj h.2.2)), if_neg (fun h => hc (beq_iff_eq.1 h.2.1).symm)]
          rfl
    · have hp : Lib.hasPrefix (b :: r) [39] = false := by
        unfold Lib.hasPrefix
        simp only [List.isPrefixOf]
        rw [beq_eq_false_iff_ne.2 (fun e => hb e.symm)]; rfl
      unfold markedP
      rw [hp]
      unfold refM
      rw [if_neg (fun h => by cases h.1), if_neg (fun h => hb (Option.some.inj h.2.1))]
      rfl
theorem all_while (p : UInt8 → Bool) : ∀ l : List UInt8, (l.takeWhile p).all p = true
  | [] => rfl
  | b :: l => by
    rw [List.takeWhile_cons]
    cases h : p b with
    | true => rw [if_pos rfl, List.all_cons, h, all_while p l]; rfl
    | false => rfl
theorem mem_while {p : UInt8 → Bool} {l : List UInt8} {b : UInt8} (h : b ∈ l.takeWhile p) : p b = true := List.all_eq_true.1 (all_while p l) b h
/-- a list is what is left when a mark is trimmed behind, and so many marks -/
theorem trim_split (l : List UInt8) (c : UInt8) : l = Lib.trimRightB l c ++ List.replicate (l.length - (Lib.trimRightB l c).length) c := by
  have h := List.takeWhile_append_dropWhile (p := (· == c)) (l := l.reverse)
  have h2 : l.reverse.takeWhile (· == c) = List.replicate (l.reverse.takeWhile (· == c)).length c := by
    rw [List.eq_replicate_iff]
    refine ⟨rfl, fun b hb => ?_⟩
    have := mem_while hb
    exact beq_iff_eq.1 this
  have h3 : l = Lib.trimRightB l c ++ (l.reverse.takeWhile (· == c)).reverse := by
    unfold Lib.trimRightB
    rw [← List.reverse_append, h, List.reverse_reverse]
  have h4 : (l.reverse.takeWhile (· == c)).length = l.length - (Lib.trimRightB l c).length := by
    have := congrArg List.length h3
    rw [List.length_append, List.length_reverse] at this
    omega
  rw [h2, List.reverse_replicate, h4] at h3
  exact h3
theorem trim_cat {P : List UInt8} {c : UInt8} (k : Nat) (hP : P ≠ []) (h : ∀ b ∈ P, b ≠ c) : Lib.trimRightB (P ++ List.replicate k c) c = P := by
  unfold Lib.trimRightB
  rw [List.reverse_append, List.reverse_replicate]
  have h1 : ∀ n, (List.replicate n c ++ P.reverse).dropWhile (· == c) = P.reverse.dropWhile (· == c) := by
    intro n
    induction n with
    | zero => rfl
    | succ n ih => rw [List.replicate_succ, List.cons_append, List.dropWhile_cons, beq_self_eq_true, if_pos rfl, ih]
  rw [h1]
  cases hr : P.reverse with
  | nil => exact absurd (List.reverse_eq_nil_iff.1 hr) hP
  | cons a t =>
    have ha : a ≠ c := h a (List.mem_reverse.1 (hr ▸ List.mem_cons_self))
    rw [List.dropWhile_cons, beq_eq_false_iff_ne.2 ha, if_neg (by simp), ← hr, List.reverse_reverse]
theorem take_while_cat {p : UInt8 → Bool} {P E : List UInt8} (h : P.all p = true) (hE : ∀ b, E.head? = some b → p b = false) : (P ++ E).takeWhile p = P := by
  induction P with
  | nil =>
    cases E with
    | nil => rfl
    | cons b E => rw [List.nil_append, List.takeWhile_cons, hE b rfl]; rfl
  | cons b P ih =>
    rw [List.all_cons, Bool.and_eq_true] at h
    rw [List.cons_append, List.takeWhile_cons, h.1, if_pos rfl, ih h.2]
theorem while_pre (p : UInt8 → Bool) (l : List UInt8) : l = l.takeWhile p ++ l.drop (l.takeWhile p).length := by
  conv => lhs; rw [← List.takeWhile_append_dropWhile (p := p) (l := l)]
  congr 1
  conv => rhs; rw [show l.drop (l.takeWhile p).length = (l.takeWhile p ++ l.dropWhile p).drop (l.takeWhile p).length by rw [List.takeWhile_append_dropWhile]]
  rw [List.drop_left]
theorem rcode_eq (l : List UInt8) : rcodeB l = codeB l := by
  have hp : plainB [43, 47, 45, 95] 61 = false := by decide
  unfold rcodeB codeB
  generalize plainB [43, 47, 45, 95] = p at *
  rw [Bool.eq_iff_iff]
  constructor
  · intro h
    rw [Bool.and_eq_true, decide_eq_true_eq] at h
    obtain ⟨hn, hE⟩ := h
    have hs := while_pre p l
    have hal := all_while p l
    generalize hP : l.takeWhile p = P at *
    have hPne : P ≠ [] := by intro e; rw [e] at hn; simp at hn
    obtain ⟨k, hk, hE2⟩ : ∃ k, k ≤ 2 ∧ l.drop P.length = List.replicate k 61 := by
      simp only [Bool.or_eq_true, decide_eq_true_eq] at hE
      rcases hE with (h | h) | h
      · exact ⟨0, by omega, h⟩
      · exact ⟨1, by omega, h⟩
      · exact ⟨2, by omega, h⟩
    rw [hE2] at hs
    have ht : Lib.trimRightB l 61 = P := by
      rw [hs]
      refine trim_cat k hPne fun b hb e => ?_
      have := List.all_eq_true.1 hal b hb
      rw [e, hp] at this; cases this
    rw [ht]
    have hl := congrArg List.length hs
    rw [List.length_append, List.length_replicate] at hl
    unfold madeB
    rw [hal, Bool.and_eq_true, decide_eq_true_eq]
    refine ⟨?_, by omega⟩
    cases P with
    | nil => exact absurd rfl hPne
    | cons _ _ => rfl
  · intro h
    rw [Bool.and_eq_true, decide_eq_true_eq] at h
    obtain ⟨hT, hk⟩ := h
    have hs := trim_split l 61
    generalize Lib.trimRightB l 61 = T at *
    unfold madeB at hT
    rw [Bool.and_eq_true] at hT
    generalize l.length - T.length = k at *
    have hw : l.takeWhile p = T := by
      rw [hs]
      refine take_while_cat hT.1 fun b hb => ?_
      cases k with
      | zero => simp at hb
      | succ k => rw [List.replicate_succ] at hb; simp at hb; rw [← hb]; exact hp
    have hd : l.drop T.length = List.replicate k 61 := by conv => lhs; rw [hs]; rw [List.drop_left]
    rw [hw, hd, Bool.and_eq_true, decide_eq_true_eq]
    refine ⟨?_, ?_⟩
    · cases T with
      | nil => simp at hT
      | cons _ _ => simp
    · have : k = 0 ∨ k = 1 ∨ k = 2 := by omega
      rcases this with rfl | rfl | rfl <;> simp
theorem mkB_size (l : List UInt8) : (mkB l).size = l.length := rfl
theorem mkB_list (l : List UInt8) : (mkB l).data.toList = l := rfl
theorem low_pre (t : List UInt8) (k : Nat) : ((lowS (mkB t)).extract 0 k).toList = (t.map M.low).take k := by
  rw [Lib.extract_toList]; rfl
theorem same_pre (t beg : List UInt8) (h : beg.map M.low = beg) : sameB (t.take beg.length) beg = true ↔ (t.map M.low).take beg.length = beg := by
  unfold sameB
  rw [beq_iff_eq, ← List.map_take]
  constructor
  · intro e; exact e.trans h
  · intro e; exact e.trans h.symm
theorem ext_mkB (t : List UInt8) (k : Nat) : (mkB t).extract k (mkB t).size = mkB (t.drop k) := by
  apply ByteArray.ext; apply Array.toList_inj.1; rw [Ks.ext_drop]; rfl
theorem code_nil : codeB [] = false := rfl
/-- a beginning and a code behind it -/
theorem beg_code (t beg : List UInt8) (h : beg.map M.low = beg) : (∃ t', (if beg.length ≤ t.length ∧ sameB (t.take beg.length) beg = true then some (t.drop beg.length) else none) = some t' ∧ codeB t' = true) ↔ (beg.length < t.length ∧ (t.map M.low).take beg.length = beg ∧ codeB (t.drop beg.length) = true) := by
  constructor
  · rintro ⟨t', ht, hc⟩
    split at ht
    · rename_i hh
      cases ht
      refine ⟨?_, (same_pre t beg h).1 hh.2, hc⟩
      by_cases hl : beg.length = t.length
      · rw [hl, List.drop_length, code_nil] at hc; cases hc
      · omega
    · cases ht
  · rintro ⟨h1, h2, h3⟩
    exact ⟨_, if_pos ⟨by omega, (same_pre t beg h).2 h2⟩, h3⟩
theorem key_nil : keywordB (lowS ⟨#[]⟩) = false := by
  unfold keywordB
  rw [Lib.toList_data]
  rfl
theorem nonce_of (s t : List UInt8) (h : refM s = some t) : nonceP s = if 6 < t.length ∧ (t.map M.low).take 6 = [110, 111, 110, 99, 101, 45] ∧ codeB (t.drop 6) = true then some { text := mkB (t.drop 6) } else none := by
  have hb := beg_code t nonceM.data.toList rfl
  unfold nonceP
  rw [marked_ref, h, Option.bind_some]
  rw [show nonceM.data.toList.length = 6 from rfl, show nonceM.data.toList = [110, 111, 110, 99, 101, 45] from rfl] at *
  by_cases hc : 6 < t.length ∧ (t.map M.low).take 6 = [110, 111, 110, 99, 101, 45] ∧ codeB (t.drop 6) = true
  · obtain ⟨t', h1, h2⟩ := hb.2 hc
    rw [if_pos hc, h1]
    have : t' = t.drop 6 := by split at h1 <;> cases h1; rfl
    subst this
    simp only [h2, if_true]
    rfl
  · rw [if_neg hc]
    split
    · rename_i t' h1
      rw [if_neg (fun h2 => hc (hb.1 ⟨t', h1, h2⟩))]
    · rfl
theorem hash_of (s t : List UInt8) (h : refM s = some t) (n : ByteArray) (h6 : n.size = 6) (hn : (n.data.toList ++ [45]).map M.low = n.data.toList ++ [45]) : hashAt s n = if 7 < t.length ∧ (t.map M.low).take 7 = n.data.toList ++ [45] ∧ codeB (t.drop 7) = true then some { scheme := n, text := mkB (t.drop 7) } else none := by
  have hd : (n ++ ⟨#[45]⟩ : ByteArray).data.toList = n.data.toList ++ [45] := by simp
  have hl : (n.data.toList ++ [45]).length = 7 := by rw [List.length_append, Ks.len_list, h6]; rfl
  have hb := beg_code t (n.data.toList ++ [45]) hn
  unfold hashAt
  rw [hd, marked_ref, h, Option.bind_some]
  rw [hl] at *
  by_cases hc : 7 < t.length ∧ (t.map M.low).take 7 = n.data.toList ++ [45] ∧ codeB (t.drop 7) = true
  · obtain ⟨t', h1, h2⟩ := hb.2 hc
    rw [if_pos hc, h1]
    have : t' = t.drop 7 := by split at h1 <;> cases h1; rfl
    subst this
    simp only [h2, if_true]
    rfl
  · rw [if_neg hc]
    split
    · rename_i t' h1
      rw [if_neg (fun h2 => hc (hb.1 ⟨t', h1, h2⟩))]
    · rfl
theorem quot_none (s : List UInt8) (h : refM s = none) (k : Nat) (hk : k < 3) : rdK s k = none := by
  have hm : ∀ beg, markedP s beg = none := fun beg => by rw [marked_ref, h]; rfl
  have : k = 0 ∨ k = 1 ∨ k = 2 := by omega
  rcases this with rfl | rfl | rfl
  · unfold rdK rdAt keywordP
    rw [hm]
    show Option.map _ (if keywordB (lowS ⟨#[]⟩) = true then _ else none) = none
    rw [key_nil]; rfl
  · unfold rdK rdAt nonceP
    rw [hm]; rfl
  · unfold rdK rdAt hashP
    rw [find_miss]
    · rfl
    · intro j z _
      unfold hashAt
      rw [hm]
theorem quotP_eq (s : List UInt8) : quotP s = (rdK s 0).or ((rdK s 1).or (rdK s 2)) := by
  cases h : refM s with
  | none =>
    rw [quot_none s h 0 (by omega), quot_none s h 1 (by omega), quot_none s h 2 (by omega)]
    unfold quotP
    rw [h]; rfl
  | some t =>
    have hk : keywordP s = if keywordB (lowS (mkB t)) = true then some { text := lowS (mkB t) } else none := by
      unfold keywordP
      rw [marked_ref, h]
      have : (if ([] : List UInt8).length ≤ t.length ∧ sameB (t.take ([] : List UInt8).length) [] = true then some (t.drop ([] : List UInt8).length) else none) = some t := if_pos ⟨Nat.zero_le _, rfl⟩
      rw [Option.bind_some, this]
      rfl
    have hn := nonce_of s t h
    have h0 : hashAt s ⟨#[115, 104, 97, 50, 53, 54]⟩ = if 7 < t.length ∧ (t.map M.low).take 7 = [115, 104, 97, 50, 53, 54, 45] ∧ codeB (t.drop 7) = true then some { scheme := ⟨#[115, 104, 97, 50, 53, 54]⟩, text := mkB (t.drop 7) } else none := hash_of s t h ⟨#[115, 104, 97, 50, 53, 54]⟩ rfl rfl
    have h1 : hashAt s ⟨#[115, 104, 97, 51, 56, 52]⟩ = if 7 < t.length ∧ (t.map M.low).take 7 = [115, 104, 97, 51, 56, 52, 45] ∧ codeB (t.drop 7) = true then some { scheme := ⟨#[115, 104, 97, 51, 56, 52]⟩, text := mkB (t.drop 7) } else none := hash_of s t h ⟨#[115, 104, 97, 51, 56, 52]⟩ rfl rfl
    have h2 : hashAt s ⟨#[115, 104, 97, 53, 49, 50]⟩ = if 7 < t.length ∧ (t.map M.low).take 7 = [115, 104, 97, 53, 49, 50, 45] ∧ codeB (t.drop 7) = true then some { scheme := ⟨#[115, 104, 97, 53, 49, 50]⟩, text := mkB (t.drop 7) } else none := hash_of s t h ⟨#[115, 104, 97, 53, 49, 50]⟩ rfl rfl
    have hh : hashP s = (hashAt s ⟨#[115, 104, 97, 50, 53, 54]⟩).or ((hashAt s ⟨#[115, 104, 97, 51, 56, 52]⟩).or (hashAt s ⟨#[115, 104, 97, 53, 49, 50]⟩)) := by
      unfold hashP hN
      simp only [List.findSome?_cons, List.findSome?_nil]
      cases hashAt s ⟨#[115, 104, 97, 50, 53, 54]⟩ <;> cases hashAt s ⟨#[115, 104, 97, 51, 56, 52]⟩ <;> cases hashAt s ⟨#[115, 104, 97, 53, 49, 50]⟩ <;> rfl
    unfold rdK rdAt
    simp only
    rw [hk, hn, hh, h0, h1, h2]
    unfold quotP quotT
    rw [h, Option.bind_some, low_pre, low_pre, ext_mkB, ext_mkB, mkB_size, mkB_list, mkB_list, rcode_eq, rcode_eq]
    have e6 : (lowS (mkB t)).extract 0 6 = mkB ((t.map M.low).take 6) := by
      apply ByteArray.ext; apply Array.toList_inj.1; rw [Ks.ext_take]; rfl
    rw [e6]
    by_cases k0 : keywordB (lowS (mkB t)) = true
    · rw [if_pos k0, if_pos k0]; rfl
    rw [if_neg k0, if_neg k0]
    by_cases k1 : 6 < t.length ∧ (t.map M.low).take 6 = [110, 111, 110, 99, 101, 45] ∧ codeB (t.drop 6) = true
    · rw [if_pos k1, if_pos k1]; rfl
    rw [if_neg k1, if_neg k1]
    show _ = Option.map _ _
    have h67 : (t.map M.low).take 6 = ((t.map M.low).take 7).take 6 := by rw [List.take_take]; rfl
    by_cases c0 : 7 < t.length ∧ (t.map M.low).take 7 = [115, 104, 97, 50, 53, 54, 45] ∧ codeB (t.drop 7) = true
    · rw [if_pos ⟨c0.1, .inl c0.2.1, c0.2.2⟩, if_pos c0, h67, c0.2.1]
      rfl
    rw [if_neg c0]
    by_cases c1 : 7 < t.length ∧ (t.map M.low).take 7 = [115, 104, 97, 51, 56, 52, 45] ∧ codeB (t.drop 7) = true
    · rw [if_pos ⟨c1.1, .inr (.inl c1.2.1), c1.2.2⟩, if_pos c1, h67, c1.2.1]
      rfl
    rw [if_neg c1]
    by_cases c2 : 7 < t.length ∧ (t.map M.low).take 7 = [115, 104, 97, 53, 49, 50, 45] ∧ codeB (t.drop 7) = true
    · rw [if_pos ⟨c2.1, .inr (.inr c2.2.1), c2.2.2⟩, if_pos c2, h67, c2.2.1]
      rfl
    rw [if_neg c2]
    rw [if_neg]
    · rfl
    · rintro ⟨h1, h2 | h2 | h2, h3⟩
      · exact c0 ⟨h1, h2, h3⟩
      · exact c1 ⟨h1, h2, h3⟩
      · exact c2 ⟨h1, h2, h3⟩
end Go.Proofs.YtempmmkdppelaaaGreatDoor
