import Derived.Test.YtflddokngplgiaaDoorA23M
namespace Go.Proofs.YtflddokngplgiaaDoor
open Go.RowKit
theorem gload {P : Program} {w : World} {ops : Array Oper} {rest : List Oper} {o : Oper} {a : Act} {Q : Exit → Act → World → Prop} (hgd : Region.wanted o (yielded ops a.tmps) = true) (ty : TypeId) (x : Operand) (ho : o.op = .load ty x)
    (g : Nat) (hx : a.eval x = .pointer (some ⟨g, 0, none⟩)) (t : TypeId) (cs : Array Value) (d : TypeDesc) (hg : w.heap[g]? = some (.cells cs t (0, 0)))
    (hu : P.underlying ty = some d) (hd : (match d with | .struct _ | .array _ _ => true | _ => false) = true) (hi : (P.info? ty).map (·.size) = some cs.size)
    (h : wpList P ops Q rest (a.put o.dst (.agg cs)) w) : wpList P ops Q (o :: rest) a w := by
  refine wpList_step fun K hK => ?_
  rw [if_pos hgd]
  exact wp_load_row ty x ho g hx t cs (0, 0) d hg hu hd hi (hK _ _ h)
abbrev lx : List Nat := [1, 0, 0, 2, 0, 0, 0, 3]
abbrev LX : Array Value := #[.int .u16 1, .int .u16 0, .int .u16 0, .int .u16 2, .int .u16 0, .int .u16 0, .int .u16 0, .int .u16 3]
theorem LXe : A8 lx = LX := rfl
set_option maxHeartbeats 16000000 in
set_option maxRecDepth 100000 in
theorem lives_is (w : World) (hG : Glob w) : Calls Tryd.prog 14 #[] w fun e w' => e = .returned (.bool true) ∧ Below w.heap.size w w' := by
  have HG := Lib.hid hG
  clear hG
  go_enter Tryd.func14, Tryd.ntmps14
  go_wp2_with fail
  refine (v4_is ⟨#[48, 120, 55, 102, 46, 49]⟩ (by decide) _ HG.out).mono ?_
  rintro e w1 ⟨rfl, hb⟩
  have HB1 := Lib.hid hb
  have HG1 := Lib.hid (HG.out.to hb)
  clear hb
  rw [show v4O (⟨#[48, 120, 55, 102, 46, 49]⟩ : ByteArray).data.toList = some 2130706433 from lv1]
  simp only [ansE]
  go_wp2_with fail
  refine (v4_is ⟨#[49, 46, 50, 46, 51, 46, 50, 53, 54]⟩ (by decide) _ HG1.out).mono ?_
  rintro e w2 ⟨rfl, hb⟩
  have HB2 := Lib.hid (bel2 HB1.out hb)
  have HG2 := Lib.hid (HG1.out.to hb)
  clear hb
  rw [show v4O (⟨#[49, 46, 50, 46, 51, 46, 50, 53, 54]⟩ : ByteArray).data.toList = none from lv2]
  simp only [ansE]
  go_wp2_with fail
  refine (v6_is ⟨#[49, 58, 48, 58, 48, 58, 50, 58, 48, 58, 48, 58, 48, 58, 51]⟩ (by decide) _ HG2.out).mono ?_
  rintro e w3 ⟨rfl, hb⟩
  have HB3 := Lib.hid (bel2 HB2.out hb)
  have HG3 := Lib.hid (HG2.out.to hb)
  clear hb
  rw [show v6P (⟨#[49, 58, 48, 58, 48, 58, 50, 58, 48, 58, 48, 58, 48, 58, 51]⟩ : ByteArray).data.toList = some lx from lv3]
  simp only [v6E, LXe]
  have HH := Lib.hid (Has.new w3 (.cells Z8 27))
  have HH4 := Lib.hid (show Has ((w3.alloc (.cells Z8 27)).setRow w3.heap.size LX) w3.heap.size (.cells LX 27) from setRow_heap _ _ _ _ 27 (0, 0) HH.out)
  have HB4 := Lib.hid (below_setRow (HB3.out.alloc HB3.out.size (.cells Z8 27)) HB3.out.size LX)
  have HG4 := Lib.hid (HG.out.to HB4.out)
  go_wp2_with (first
    | (refine wpList_store_row rfl 27 (.tmp 5) (.tmp 17) rfl w3.heap.size LX rfl rfl 27 Z8 HH.out info27 rfl (A8_one lx) ?_)
    | (refine gload rfl 27 (.tmp 5) rfl w3.heap.size rfl 27 LX _ HH4.out Tryd.underlying27 rfl info27 ?_))
  refine (textV6_is lx rfl (by decide) _ HG4.out).mono ?_
  rintro e w5 ⟨rfl, hb⟩
  have HB5 := Lib.hid (bel2 HB4.out hb)
  have HG5 := Lib.hid (HG4.out.to hb)
  clear hb
  rw [lv4]
  go_wp2_with fail
  refine (textV4_is 2130706433 (by omega) _ HG5.out).mono ?_
  rintro e w6 ⟨rfl, hb⟩
  have HB6 := Lib.hid (bel2 HB5.out hb)
  have HG6 := Lib.hid (HG5.out.to hb)
  clear hb
  rw [lv5]
  go_wp2_with fail
  refine (ends_is ⟨#[97, 46, 49]⟩ (by decide) _ HG6.out).mono ?_
  rintro e w7 ⟨rfl, hb⟩
  have HB7 := Lib.hid (bel2 HB6.out hb)
  have HG7 := Lib.hid (HG6.out.to hb)
  clear hb
  rw [show endsB (⟨#[97, 46, 49]⟩ : ByteArray).data.toList = true from lv6]
  go_wp2_with fail
  refine (ends_is ⟨#[49, 46, 97]⟩ (by decide) _ HG7.out).mono ?_
  rintro e w8 ⟨rfl, hb⟩
  have HB8 := Lib.hid (bel2 HB7.out hb)
  clear hb
  rw [show endsB (⟨#[49, 46, 97]⟩ : ByteArray).data.toList = false from lv7]
  go_wp2_with fail
  go_ret
  exact ⟨rfl, HB8.out⟩
end Go.Proofs.YtflddokngplgiaaDoor
namespace Go.Proofs.YtflddokngplgiaaDoor
theorem dec_ok : ∀ u, u < 256 → numO (Lib.decDigits u) = some u ∧ (Lib.decDigits u).all (fun b => decide (48 ≤ b.toNat) && decide (b.toNat ≤ 57)) = true ∧ (Lib.decDigits u).isEmpty = false := by decide +kernel
theorem dec_num {u : Nat} (h : u < 256) : numO (Lib.decDigits u) = some u := (dec_ok u h).1
theorem dec_dig {u : Nat} (h : u < 256) : ∀ b ∈ Lib.decDigits u, 48 ≤ b.toNat ∧ b.toNat ≤ 57 := by
  intro b hb
  have := (dec_ok u h).2.1
  rw [List.all_eq_true] at this
  simpa using this b hb
theorem dec_ne {u : Nat} (h : u < 256) : Lib.decDigits u ≠ [] := by
  have := (dec_ok u h).2.2
  intro e; rw [e] at this; cases this
theorem joinC_cons (c : UInt8) (p : List UInt8) (r : List (List UInt8)) (h : r ≠ []) : joinC c (p :: r) = p ++ c :: joinC c r := by
  cases r with
  | nil => exact absurd rfl h
  | cons q r => rfl
theorem parts_join (c : UInt8) (ps : List (List UInt8)) (hne : ps ≠ []) (hc : ∀ p ∈ ps, c ∉ p) : partsAt c (joinC c ps) = ps := by
  induction ps with
  | nil => exact absurd rfl hne
  | cons p r ih =>
    cases r with
    | nil => exact partsAt_miss c p (hc p (by simp))
    | cons q r' =>
      rw [joinC_cons c p _ (by simp), partsAt_hit c p _ (hc p (by simp)), ih (by simp) (fun x hx => hc x (by simp at hx ⊢; exact Or.inr hx))]
theorem partsAt_snoc (c b : UInt8) (h : ¬ b = c) (l : List UInt8) : partsAt c (l ++ [b]) = (partsAt c l).dropLast ++ [lastP c l ++ [b]] := by
  induction l with
  | nil => rw [List.nil_append, partsAt_cons_ne _ h]; rfl
  | cons a r ih =>
    have hne := partsAt_ne c r
    by_cases ha : a = c
    · subst ha
      rw [List.cons_append, partsAt, if_pos rfl, ih]
      unfold lastP
      rw [partsAt, if_pos rfl]
      cases hq : partsAt a r with
      | nil => exact absurd hq hne
      | cons x y => simp
    · rw [List.cons_append, partsAt_cons_ne _ ha, ih]
      unfold lastP
      rw [partsAt_cons_ne _ ha]
      cases hq : partsAt c r with
      | nil => exact absurd hq hne
      | cons x y =>
        cases y with
        | nil => simp
        | cons z w => simp
theorem lastP_snoc (c b : UInt8) (h : ¬ b = c) (l : List UInt8) : lastP c (l ++ [b]) = lastP c l ++ [b] := by
  conv => lhs; unfold lastP
  rw [partsAt_snoc c b h]; simp
theorem lastP_mem (c : UInt8) (l : List UInt8) : lastP c l ∈ partsAt c l := by
  unfold lastP
  have hne := partsAt_ne c l
  rw [List.getLastD_eq_getLast?, List.getLast?_eq_some_getLast hne]
  exact List.getLast_mem hne
theorem noDot_dot (l : List UInt8) : noDot (l ++ [46]) = l := by unfold noDot; simp
theorem noDot_id (l : List UInt8) (b : UInt8) (h : ¬ b = 46) : noDot (l ++ [b]) = l ++ [b] := by unfold noDot; rw [if_neg (by simpa using h)]
theorem noDot_nil : noDot [] = [] := rfl
def bs4 (n : Nat) : List (List UInt8) := (bytes4 n).map Lib.decDigits
theorem tv4_eq (n : Nat) : tv4 n = joinC 46 (bs4 n) := rfl
theorem bs4_dig {n : Nat} (hn : n < 4294967296) : ∀ p ∈ bs4 n, p ≠ [] ∧ ∀ b ∈ p, 48 ≤ b.toNat ∧ b.toNat ≤ 57 := by
  intro p hp
  simp only [bs4, bytes4, List.map_cons, List.map_nil, List.mem_cons, List.mem_nil_iff, or_false] at hp
  rcases hp with rfl | rfl | rfl | rfl
  · exact ⟨dec_ne (by omega), dec_dig (by omega)⟩
  · exact ⟨dec_ne (by omega), dec_dig (by omega)⟩
  · exact ⟨dec_ne (by omega), dec_dig (by omega)⟩
  · exact ⟨dec_ne (by omega), dec_dig (by omega)⟩
theorem dig_not {b : UInt8} {n : Nat} (h : 48 ≤ b.toNat ∧ b.toNat ≤ 57) (hn : n < 256) (hx : n < 48 ∨ 57 < n) : ¬ b = UInt8.ofNat n := by
  intro e
  rw [e, UInt8.toNat_ofNat', Nat.mod_eq_of_lt (by omega)] at h
  omega
theorem tv4_parts {n : Nat} (hn : n < 4294967296) : partsAt 46 (tv4 n) = bs4 n := by
  rw [tv4_eq]
  exact parts_join 46 _ (by simp [bs4, bytes4]) (fun p hp h => dig_not ((bs4_dig hn p hp).2 46 h) (n := 46) (by omega) (by omega) rfl)
theorem snoc_of_ne {l : List UInt8} (h : l ≠ []) : ∃ r b, l = r ++ [b] ∧ b ∈ l := ⟨l.dropLast, l.getLast h, (List.dropLast_concat_getLast h).symm, List.getLast_mem h⟩
theorem tv4_snoc {n : Nat} (hn : n < 4294967296) : ∃ r b, tv4 n = r ++ [b] ∧ (48 ≤ b.toNat ∧ b.toNat ≤ 57) := by
  obtain ⟨r, b, e, hb⟩ := snoc_of_ne (dec_ne (u := n % 256) (by omega))
  refine ⟨Lib.decDigits (n / 16777216) ++ 46 :: (Lib.decDigits (n / 65536 % 256) ++ 46 :: (Lib.decDigits (n / 256 % 256) ++ 46 :: r)), b, ?_, dec_dig (by omega) b hb⟩
  show Lib.decDigits (n / 16777216) ++ 46 :: (Lib.decDigits (n / 65536 % 256) ++ 46 :: (Lib.decDigits (n / 256 % 256) ++ 46 :: Lib.decDigits (n % 256))) = _
  rw [e]; simp
theorem tv4_noDot {n : Nat} (hn : n < 4294967296) : noDot (tv4 n) = tv4 n := by
  obtain ⟨r, b, e, hb⟩ := tv4_snoc hn
  rw [e]
  exact noDot_id r b (dig_not hb (n := 46) (by omega) (by omega))
theorem v4P_bs4 {n : Nat} (hn : n < 4294967296) : v4P (bs4 n) = some n := by
  unfold v4P
  rw [if_pos (by simp [bs4, bytes4])]
  simp only [bs4, bytes4, List.map_cons, List.map_nil, sum4, dec_num (show n / 16777216 < 256 by omega), dec_num (show n / 65536 % 256 < 256 by omega), dec_num (show n / 256 % 256 < 256 by omega), dec_num (show n % 256 < 256 by omega), Option.bind_some]
  rw [if_pos (by omega), if_pos (by omega), if_pos (by omega), if_pos (by simp only [pw]; omega)]
  simp only [Option.map_some, pw]
  congr 1
  omega
theorem v4_back {n : Nat} (hn : n < 4294967296) : v4O (tv4 n) = some n := by
  unfold v4O
  rw [tv4_noDot hn, tv4_parts hn, v4P_bs4 hn]
theorem v4_back_dot {n : Nat} (hn : n < 4294967296) : v4O (tv4 n ++ [46]) = some n := by
  unfold v4O
  rw [noDot_dot, tv4_parts hn, v4P_bs4 hn]
theorem sum4_last : ∀ (ps : List (List UInt8)) (k n : Nat), sum4 k ps = some n → (numO (ps.getLastD [])).isSome = true
  | [], k, n, h => by simp [sum4] at h
  | [p], k, n, h => by
    rw [sum4] at h
    rcases hq : numO p with _ | m
    · rw [hq] at h; cases h
    · simp [hq]
  | p :: q :: r, k, n, h => by
    rw [sum4] at h
    rcases hq : numO p with _ | m
    · rw [hq] at h; cases h
    · rw [hq] at h
      simp only [Option.bind_some] at h
      split at h
      · simp only [Option.map_eq_some_iff] at h
        obtain ⟨x, hx, _⟩ := h
        have := sum4_last (q :: r) (k + 1) x hx
        simpa using this
      · cases h
theorem ends_of_v4 {l : List UInt8} {n : Nat} (h : v4O l = some n) : endsB l = true := by
  unfold v4O v4P at h
  split at h
  · unfold endsB
    have := sum4_last _ _ _ h
    unfold lastP
    rw [this]; rfl
  · cases h
theorem tv4_len {n : Nat} (hn : n < 4294967296) : (tv4 n).length ≤ 15 := by
  have h0 := dec_len (n / 16777216) (by omega)
  have h1 := dec_len (n / 65536 % 256) (by omega)
  have h2 := dec_len (n / 256 % 256) (by omega)
  have h3 := dec_len (n % 256) (by omega)
  show (Lib.decDigits (n / 16777216) ++ 46 :: (Lib.decDigits (n / 65536 % 256) ++ 46 :: (Lib.decDigits (n / 256 % 256) ++ 46 :: Lib.decDigits (n % 256)))).length ≤ 15
  simp only [List.length_append, List.length_cons]
  omega
theorem tv4_has_dot (n : Nat) : (46 : UInt8) ∈ tv4 n := by
  show (46 : UInt8) ∈ Lib.decDigits (n / 16777216) ++ 46 :: (Lib.decDigits (n / 65536 % 256) ++ 46 :: (Lib.decDigits (n / 256 % 256) ++ 46 :: Lib.decDigits (n % 256)))
  simp
theorem tv4_colon {n : Nat} (hn : n < 4294967296) : (58 : UInt8) ∉ tv4 n := by
  have hd : ∀ u, u < 256 → (58 : UInt8) ∉ Lib.decDigits u := fun u hu h => by have := dec_dig hu 58 h; simp at this
  show (58 : UInt8) ∉ Lib.decDigits (n / 16777216) ++ 46 :: (Lib.decDigits (n / 65536 % 256) ++ 46 :: (Lib.decDigits (n / 256 % 256) ++ 46 :: Lib.decDigits (n % 256)))
  simp only [List.mem_append, List.mem_cons, not_or]
  exact ⟨hd _ (by omega), by decide, hd _ (by omega), by decide, hd _ (by omega), by decide, hd _ (by omega)⟩
end Go.Proofs.YtflddokngplgiaaDoor
