import Derived.Test.YtbclodbneonipaaGreatTGM
import Derived.Test.YtbclodbneonipaaGreatSDM
namespace Go.Proofs.YtbclodbneonipaaGreat
open Go.RowKit N
set_option maxHeartbeats 1000000 in
theorem not_span (pb : Sp → Bool) (x : Sp) (g : Nat) (w : World) (hG : Has w g (.cells #[.func (.func 56) #[] #[]] 97)) (hm : ∃ p c, x.mv = .slice p x.map.length c) 
    (hp : ∀ w, Calls Tryz.prog 56 #[.agg #[.int .i32 x.lo, .int .i32 x.hi, .int .u8 x.st, x.mv]] w fun e w' => e = .returned (.bool (pb x)) ∧ Below w.heap.size w w') :
    Calls Tryz.prog 92 #[.agg #[.int .i32 x.lo, .int .i32 x.hi, .int .u8 x.st, x.mv], .pointer (some ⟨g, 0, none⟩)] w fun e w' => e = .returned (.bool (!pb x)) ∧ Below w.heap.size w w' := by
  have hgl := hG.lt
  have c0 : w.cell? ⟨g, 0, none⟩ = some (.func (.func 56) #[] #[]) := hG.cell 0 rfl
  have HP := Lib.hid hp
  obtain ⟨mp, mc, hm⟩ := hm
  obtain ⟨lo, hi, st, mv, map⟩ := x
  simp only at hm
  subst hm
  clear hp hG
  go_enter Tryz.func92, Tryz.ntmps92
  go_wp2_with fail
  refine (HP.out _).mono ?_
  rintro e w1 ⟨rfl, hb1⟩
  go_wp2
  go_ret
  exact ⟨ret_bool (by simp), (bnew _ _).trans (hb1.mono (by simp))⟩
set_option maxHeartbeats 2000000 in
theorem index_span (pb : Sp → Bool) (v : Value) (l : List Sp) (g : Nat) (w : World) (hl : l.length ≤ maxLen) (h : Lst w 4 encSp v l) (hm : ∀ x ∈ l, ∃ p c, x.mv = .slice p x.map.length c) 
    (hp : ∀ x ∈ l, ∀ w', Below w.heap.size w w' → Calls Tryz.prog 92 #[.agg #[.int .i32 x.lo, .int .i32 x.hi, .int .u8 x.st, x.mv], .pointer (some ⟨g, 0, none⟩)] w' fun e w'' => e = .returned (.bool (!pb x)) ∧ Below w'.heap.size w' w'') :
    Calls Tryz.prog 110 #[v, .func (.func 92) #[] #[.pointer (some ⟨g, 0, none⟩)]] w fun e w' => ∃ n : Int, e = .returned (.int .i64 n) ∧ decide (0 ≤ n) = !(l.all pb) ∧ Below w.heap.size w w' := by
  unfold maxLen at hl
  obtain ⟨p, cap, rfl, hn, hc⟩ := h
  have HC := Lib.hid hc
  have HP := Lib.hid hp
  have HM := Lib.hid hm
  clear hc hp hn hm
  go_enter Tryz.func110, Tryz.ntmps110
  go_wp2
  go_loopw [8] (fun i wr => ∃ k : Nat, k ≤ l.length ∧ i = .int .i64 k ∧ Hid ((l.take k).all pb = true) ∧ Below w.heap.size w wr) (fun i _ => l.length - (intOf i).toNat)
  case atStart => exact ⟨0, Nat.zero_le _, rfl, Lib.hid rfl, Below.refl _ _⟩
  case round =>
    obtain ⟨k, hk, rfl, HN, hB⟩ := hrel
    by_cases hlt : k < l.length
    · obtain ⟨g1, o, rfl, hg, hx⟩ := HC.out k l[k] (List.getElem?_eq_getElem hlt)
      have c0 := (hB.cell (p := ⟨g1, o + k * 4, none⟩) hg).trans (hx 0 _ rfl)
      have c1 := (hB.cell (p := ⟨g1, o + k * 4 + 1, none⟩) hg).trans (hx 1 _ rfl)
      have c2 := (hB.cell (p := ⟨g1, o + k * 4 + 2, none⟩) hg).trans (hx 2 _ rfl)
      have c3 := (hB.cell (p := ⟨g1, o + k * 4 + 3, none⟩) hg).trans (hx 3 _ rfl)
      obtain ⟨ek, hek⟩ : ∃ x, x = l[k] := ⟨_, rfl⟩
      rw [← hek] at c0 c1 c2 c3
      have HK := Lib.hid hek
      have hmem : Hid (ek ∈ l) := Lib.hid (by rw [hek]; exact List.getElem_mem hlt)
      have HB := Lib.hid hB
      have hBs := hB.size
      clear hx hek hB
      obtain ⟨mp, mc, hmv⟩ := HM.out ek hmem.out
      rw [hmv] at c3
      have HPE := Lib.hid (HP.out ek hmem.out)
      rw [hmv] at HPE
      clear hmv
      cases hpb : pb ek with
      | true =>
        rw [hpb] at HPE
        have HS : Hid ((l.take (k + 1)).all pb = true) := Lib.hid (by
          rw [take_snoc l k hlt, List.all_append, HN.out, ← HK.out]; simp [hpb])
        clear hpb
        go_wp2_with fail
        refine (HPE.out _ HB.out).mono ?_
        rintro e w1 ⟨rfl, hb1⟩
        have HB1 := Lib.hid (HB.out.trans (hb1.mono hBs))
        clear hb1
        go_wp2
        go_roundw
        case rel => exact ⟨k + 1, by omega, by go_num, HS, HB1.out⟩
        case measure => simp [intOf]; omega
      | false =>
        rw [hpb] at HPE
        have HS : Hid (l.all pb = false) := Lib.hid (by
          rw [Bool.eq_false_iff]
          intro h
          have := List.all_eq_true.1 h ek hmem.out
          rw [hpb] at this; cases this)
        clear hpb
        go_wp2_with fail
        refine (HPE.out _ HB.out).mono ?_
        rintro e w1 ⟨rfl, hb1⟩
        have HB1 := Lib.hid (HB.out.trans (hb1.mono hBs))
        clear hb1
        go_wp2
        go_ret
        exact ⟨(k : Int), rfl, by rw [HS.out]; simp, HB1.out⟩
    · have HS : Hid (l.all pb = true) := Lib.hid (by
        have := HN.out
        rwa [List.take_of_length_le (by omega)] at this)
      have HB := Lib.hid hB
      clear hB
      go_wp2
      go_ret
      exact ⟨-1, rfl, by rw [HS.out]; rfl, HB.out⟩
set_option maxHeartbeats 1000000 in
theorem every_span (pb : Sp → Bool) (v : Value) (l : List Sp) (b : Bool) (hb : l.all pb = b) (w : World) (hl : l.length ≤ maxLen) (h : Lst w 4 encSp v l) (hm : ∀ x ∈ l, ∃ p c, x.mv = .slice p x.map.length c) 
    (hp : ∀ x ∈ l, ∀ w, Calls Tryz.prog 56 #[.agg #[.int .i32 x.lo, .int .i32 x.hi, .int .u8 x.st, x.mv]] w fun e w' => e = .returned (.bool (pb x)) ∧ Below w.heap.size w w') :
    Calls Tryz.prog 55 #[v, .func (.func 56) #[] #[]] w fun e w' => e = .returned (.bool b) ∧ Below w.heap.size w w' := by
  have h0 := h
  obtain ⟨p, cap, rfl, _⟩ := h0
  have HL := Lib.hid (And.intro hl h)
  have HP := Lib.hid hp
  have HB := Lib.hid hb
  have HM := Lib.hid hm
  clear hl h hp hb hm
  have hG := Has.new w (.cells #[.func (.func 56) #[] #[]] 97)
  have HG := Lib.hid hG
  clear hG
  have hcf : ∀ wz, Below (w.alloc (.cells #[.func (.func 56) #[] #[]] 97)).heap.size (w.alloc (.cells #[.func (.func 56) #[] #[]] 97)) wz → Calls Tryz.prog 91 #[.slice p l.length cap, .func (.func 92) #[] #[.pointer (some ⟨w.heap.size, 0, none⟩)]] wz fun e w' => e = .returned (.bool (!b)) ∧ Below wz.heap.size wz w' := fun wz hz => by
    have hT := (HL.out.2.below (bnew w _)).below hz
    have hix := index_span pb _ l w.heap.size wz HL.out.1 hT HM.out (fun x hx w' hw' => not_span pb x w.heap.size w' ((HG.out.to hz).to hw') (HM.out x hx) (HP.out x hx))
    have HIX := Lib.hid hix
    clear hix hT
    go_enter Tryz.func91, Tryz.ntmps91
    go_wp2_with fail
    refine (HIX.out).mono ?_
    rintro e w1 ⟨n, rfl, hn, hb1⟩
    rw [HB.out] at hn
    have HN := Lib.hid hn
    clear hn
    go_wp2
    go_ret
    exact ⟨by rw [← HN.out]; rfl, hb1⟩
  have HCF := Lib.hid hcf
  clear hcf
  go_enter Tryz.func55, Tryz.ntmps55
  go_wp2_with fail
  refine (HCF.out _ (Below.refl _ _)).mono ?_
  rintro e w1 ⟨rfl, hb1⟩
  go_wp2
  go_ret
  exact ⟨ret_bool (by simp), (bnew _ _).trans (hb1.mono (by simp))⟩
end Go.Proofs.YtbclodbneonipaaGreat
namespace Go.Proofs.YtbclodbneonipaaGreat
open Go.RowKit N
set_option maxHeartbeats 1000000 in
theorem not_class (pb : Cl → Bool) (x : Cl) (g : Nat) (w : World) (hG : Has w g (.cells #[.func (.func 59) #[] #[]] 99)) 
    (hp : ∀ w, Calls Tryz.prog 59 #[.agg #[.int .i32 x.r, .int .u8 x.c]] w fun e w' => e = .returned (.bool (pb x)) ∧ Below w.heap.size w w') :
    Calls Tryz.prog 94 #[.agg #[.int .i32 x.r, .int .u8 x.c], .pointer (some ⟨g, 0, none⟩)] w fun e w' => e = .returned (.bool (!pb x)) ∧ Below w.heap.size w w' := by
  have hgl := hG.lt
  have c0 : w.cell? ⟨g, 0, none⟩ = some (.func (.func 59) #[] #[]) := hG.cell 0 rfl
  have HP := Lib.hid hp
  clear hp hG
  go_enter Tryz.func94, Tryz.ntmps94
  go_wp2_with fail
  refine (HP.out _).mono ?_
  rintro e w1 ⟨rfl, hb1⟩
  go_wp2
  go_ret
  exact ⟨ret_bool (by simp), (bnew _ _).trans (hb1.mono (by simp))⟩
set_option maxHeartbeats 2000000 in
theorem index_class (pb : Cl → Bool) (v : Value) (l : List Cl) (g : Nat) (w : World) (hl : l.length ≤ maxLen) (h : Lst w 2 encCl v l) 
    (hp : ∀ x ∈ l, ∀ w', Below w.heap.size w w' → Calls Tryz.prog 94 #[.agg #[.int .i32 x.r, .int .u8 x.c], .pointer (some ⟨g, 0, none⟩)] w' fun e w'' => e = .returned (.bool (!pb x)) ∧ Below w'.heap.size w' w'') :
    Calls Tryz.prog 111 #[v, .func (.func 94) #[] #[.pointer (some ⟨g, 0, none⟩)]] w fun e w' => ∃ n : Int, e = .returned (.int .i64 n) ∧ decide (0 ≤ n) = !(l.all pb) ∧ Below w.heap.size w w' := by
  unfold maxLen at hl
  obtain ⟨p, cap, rfl, hn, hc⟩ := h
  have HC := Lib.hid hc
  have HP := Lib.hid hp

  clear hc hp hn 
  go_enter Tryz.func111, Tryz.ntmps111
  go_wp2
  go_loopw [8] (fun i wr => ∃ k : Nat, k ≤ l.length ∧ i = .int .i64 k ∧ Hid ((l.take k).all pb = true) ∧ Below w.heap.size w wr) (fun i _ => l.length - (intOf i).toNat)
  case atStart => exact ⟨0, Nat.zero_le _, rfl, Lib.hid rfl, Below.refl _ _⟩
  case round =>
    obtain ⟨k, hk, rfl, HN, hB⟩ := hrel
    by_cases hlt : k < l.length
    · obtain ⟨g1, o, rfl, hg, hx⟩ := HC.out k l[k] (List.getElem?_eq_getElem hlt)
      have c0 := (hB.cell (p := ⟨g1, o + k * 2, none⟩) hg).trans (hx 0 _ rfl)
      have c1 := (hB.cell (p := ⟨g1, o + k * 2 + 1, none⟩) hg).trans (hx 1 _ rfl)
      obtain ⟨ek, hek⟩ : ∃ x, x = l[k] := ⟨_, rfl⟩
      rw [← hek] at c0 c1
      have HK := Lib.hid hek
      have hmem : Hid (ek ∈ l) := Lib.hid (by rw [hek]; exact List.getElem_mem hlt)
      have HB := Lib.hid hB
      have hBs := hB.size
      clear hx hek hB
      have HPE := Lib.hid (HP.out ek hmem.out)
      cases hpb : pb ek with
      | true =>
        rw [hpb] at HPE
        have HS : Hid ((l.take (k + 1)).all pb = true) := Lib.hid (by
          rw [take_snoc l k hlt, List.all_append, HN.out, ← HK.out]; simp [hpb])
        clear hpb
        go_wp2_with fail
        refine (HPE.out _ HB.out).mono ?_
        rintro e w1 ⟨rfl, hb1⟩
        have HB1 := Lib.hid (HB.out.trans (hb1.mono hBs))
        clear hb1
        go_wp2
        go_roundw
        case rel => exact ⟨k + 1, by omega, by go_num, HS, HB1.out⟩
        case measure => simp [intOf]; omega
      | false =>
        rw [hpb] at HPE
        have HS : Hid (l.all pb = false) := Lib.hid (by
          rw [Bool.eq_false_iff]
          intro h
          have := List.all_eq_true.1 h ek hmem.out
          rw [hpb] at this; cases this)
        clear hpb
        go_wp2_with fail
        refine (HPE.out _ HB.out).mono ?_
        rintro e w1 ⟨rfl, hb1⟩
        have HB1 := Lib.hid (HB.out.trans (hb1.mono hBs))
        clear hb1
        go_wp2
        go_ret
        exact ⟨(k : Int), rfl, by rw [HS.out]; simp, HB1.out⟩
    · have HS : Hid (l.all pb = true) := Lib.hid (by
        have := HN.out
        rwa [List.take_of_length_le (by omega)] at this)
      have HB := Lib.hid hB
      clear hB
      go_wp2
      go_ret
      exact ⟨-1, rfl, by rw [HS.out]; rfl, HB.out⟩
set_option maxHeartbeats 1000000 in
theorem every_class (pb : Cl → Bool) (v : Value) (l : List Cl) (b : Bool) (hb : l.all pb = b) (w : World) (hl : l.length ≤ maxLen) (h : Lst w 2 encCl v l) 
    (hp : ∀ x ∈ l, ∀ w, Calls Tryz.prog 59 #[.agg #[.int .i32 x.r, .int .u8 x.c]] w fun e w' => e = .returned (.bool (pb x)) ∧ Below w.heap.size w w') :
    Calls Tryz.prog 58 #[v, .func (.func 59) #[] #[]] w fun e w' => e = .returned (.bool b) ∧ Below w.heap.size w w' := by
  have h0 := h
  obtain ⟨p, cap, rfl, _⟩ := h0
  have HL := Lib.hid (And.intro hl h)
  have HP := Lib.hid hp
  have HB := Lib.hid hb

  clear hl h hp hb 
  have hG := Has.new w (.cells #[.func (.func 59) #[] #[]] 99)
  have HG := Lib.hid hG
  clear hG
  have hcf : ∀ wz, Below (w.alloc (.cells #[.func (.func 59) #[] #[]] 99)).heap.size (w.alloc (.cells #[.func (.func 59) #[] #[]] 99)) wz → Calls Tryz.prog 93 #[.slice p l.length cap, .func (.func 94) #[] #[.pointer (some ⟨w.heap.size, 0, none⟩)]] wz fun e w' => e = .returned (.bool (!b)) ∧ Below wz.heap.size wz w' := fun wz hz => by
    have hT := (HL.out.2.below (bnew w _)).below hz
    have hix := index_class pb _ l w.heap.size wz HL.out.1 hT (fun x hx w' hw' => not_class pb x w.heap.size w' ((HG.out.to hz).to hw') (HP.out x hx))
    have HIX := Lib.hid hix
    clear hix hT
    go_enter Tryz.func93, Tryz.ntmps93
    go_wp2_with fail
    refine (HIX.out).mono ?_
    rintro e w1 ⟨n, rfl, hn, hb1⟩
    rw [HB.out] at hn
    have HN := Lib.hid hn
    clear hn
    go_wp2
    go_ret
    exact ⟨by rw [← HN.out]; rfl, hb1⟩
  have HCF := Lib.hid hcf
  clear hcf
  go_enter Tryz.func58, Tryz.ntmps58
  go_wp2_with fail
  refine (HCF.out _ (Below.refl _ _)).mono ?_
  rintro e w1 ⟨rfl, hb1⟩
  go_wp2
  go_ret
  exact ⟨ret_bool (by simp), (bnew _ _).trans (hb1.mono (by simp))⟩
end Go.Proofs.YtbclodbneonipaaGreat
namespace Go.Proofs.YtbclodbneonipaaGreat
open Go.RowKit N
set_option maxHeartbeats 1000000 in
theorem not_pair (pb : Pa → Bool) (x : Pa) (g : Nat) (w : World) (hG : Has w g (.cells #[.func (.func 62) #[] #[]] 101)) 
    (hp : ∀ w, Calls Tryz.prog 62 #[.agg #[.int .i32 x.r, .int .i32 x.a, .int .i32 x.b, .bool x.one]] w fun e w' => e = .returned (.bool (pb x)) ∧ Below w.heap.size w w') :
    Calls Tryz.prog 96 #[.agg #[.int .i32 x.r, .int .i32 x.a, .int .i32 x.b, .bool x.one], .pointer (some ⟨g, 0, none⟩)] w fun e w' => e = .returned (.bool (!pb x)) ∧ Below w.heap.size w w' := by
  have hgl := hG.lt
  have c0 : w.cell? ⟨g, 0, none⟩ = some (.func (.func 62) #[] #[]) := hG.cell 0 rfl
  have HP := Lib.hid hp
  clear hp hG
  go_enter Tryz.func96, Tryz.ntmps96
  go_wp2_with fail
  refine (HP.out _).mono ?_
  rintro e w1 ⟨rfl, hb1⟩
  go_wp2
  go_ret
  exact ⟨ret_bool (by simp), (bnew _ _).trans (hb1.mono (by simp))⟩
set_option maxHeartbeats 2000000 in
theorem index_pair (pb : Pa → Bool) (v : Value) (l : List Pa) (g : Nat) (w : World) (hl : l.length ≤ maxLen) (h : Lst w 4 encPa v l) 
    (hp : ∀ x ∈ l, ∀ w', Below w.heap.size w w' → Calls Tryz.prog 96 #[.agg #[.int .i32 x.r, .int .i32 x.a, .int .i32 x.b, .bool x.one], .pointer (some ⟨g, 0, none⟩)] w' fun e w'' => e = .returned (.bool (!pb x)) ∧ Below w'.heap.size w' w'') :
    Calls Tryz.prog 112 #[v, .func (.func 96) #[] #[.pointer (some ⟨g, 0, none⟩)]] w fun e w' => ∃ n : Int, e = .returned (.int .i64 n) ∧ decide (0 ≤ n) = !(l.all pb) ∧ Below w.heap.size w w' := by
  unfold maxLen at hl
  obtain ⟨p, cap, rfl, hn, hc⟩ := h
  have HC := Lib.hid hc
  have HP := Lib.hid hp

  clear hc hp hn 
  go_enter Tryz.func112, Tryz.ntmps112
  go_wp2
  go_loopw [8] (fun i wr => ∃ k : Nat, k ≤ l.length ∧ i = .int .i64 k ∧ Hid ((l.take k).all pb = true) ∧ Below w.heap.size w wr) (fun i _ => l.length - (intOf i).toNat)
  case atStart => exact ⟨0, Nat.zero_le _, rfl, Lib.hid rfl, Below.refl _ _⟩
  case round =>
    obtain ⟨k, hk, rfl, HN, hB⟩ := hrel
    by_cases hlt : k < l.length
    · obtain ⟨g1, o, rfl, hg, hx⟩ := HC.out k l[k] (List.getElem?_eq_getElem hlt)
      have c0 := (hB.cell (p := ⟨g1, o + k * 4, none⟩) hg).trans (hx 0 _ rfl)
      have c1 := (hB.cell (p := ⟨g1, o + k * 4 + 1, none⟩) hg).trans (hx 1 _ rfl)
      have c2 := (hB.cell (p := ⟨g1, o + k * 4 + 2, none⟩) hg).trans (hx 2 _ rfl)
      have c3 := (hB.cell (p := ⟨g1, o + k * 4 + 3, none⟩) hg).trans (hx 3 _ rfl)
      obtain ⟨ek, hek⟩ : ∃ x, x = l[k] := ⟨_, rfl⟩
      rw [← hek] at c0 c1 c2 c3
      have HK := Lib.hid hek
      have hmem : Hid (ek ∈ l) := Lib.hid (by rw [hek]; exact List.getElem_mem hlt)
      have HB := Lib.hid hB
      have hBs := hB.size
      clear hx hek hB
      have HPE := Lib.hid (HP.out ek hmem.out)
      cases hpb : pb ek with
      | true =>
        rw [hpb] at HPE
        have HS : Hid ((l.take (k + 1)).all pb = true) := Lib.hid (by
          rw [take_snoc l k hlt, List.all_append, HN.out, ← HK.out]; simp [hpb])
        clear hpb
        go_wp2_with fail
        refine (HPE.out _ HB.out).mono ?_
        rintro e w1 ⟨rfl, hb1⟩
        have HB1 := Lib.hid (HB.out.trans (hb1.mono hBs))
        clear hb1
        go_wp2
        go_roundw
        case rel => exact ⟨k + 1, by omega, by go_num, HS, HB1.out⟩
        case measure => simp [intOf]; omega
      | false =>
        rw [hpb] at HPE
        have HS : Hid (l.all pb = false) := Lib.hid (by
          rw [Bool.eq_false_iff]
          intro h
          have := List.all_eq_true.1 h ek hmem.out
          rw [hpb] at this; cases this)
        clear hpb
        go_wp2_with fail
        refine (HPE.out _ HB.out).mono ?_
        rintro e w1 ⟨rfl, hb1⟩
        have HB1 := Lib.hid (HB.out.trans (hb1.mono hBs))
        clear hb1
        go_wp2
        go_ret
        exact ⟨(k : Int), rfl, by rw [HS.out]; simp, HB1.out⟩
    · have HS : Hid (l.all pb = true) := Lib.hid (by
        have := HN.out
        rwa [List.take_of_length_le (by omega)] at this)
      have HB := Lib.hid hB
      clear hB
      go_wp2
      go_ret
      exact ⟨-1, rfl, by rw [HS.out]; rfl, HB.out⟩
set_option maxHeartbeats 1000000 in
theorem every_pair (pb : Pa → Bool) (v : Value) (l : List Pa) (b : Bool) (hb : l.all pb = b) (w : World) (hl : l.length ≤ maxLen) (h : Lst w 4 encPa v l) 
    (hp : ∀ x ∈ l, ∀ w, Calls Tryz.prog 62 #[.agg #[.int .i32 x.r, .int .i32 x.a, .int .i32 x.b, .bool x.one]] w fun e w' => e = .returned (.bool (pb x)) ∧ Below w.heap.size w w') :
    Calls Tryz.prog 61 #[v, .func (.func 62) #[] #[]] w fun e w' => e = .returned (.bool b) ∧ Below w.heap.size w w' := by
  have h0 := h
  obtain ⟨p, cap, rfl, _⟩ := h0
  have HL := Lib.hid (And.intro hl h)
  have HP := Lib.hid hp
  have HB := Lib.hid hb

  clear hl h hp hb 
  have hG := Has.new w (.cells #[.func (.func 62) #[] #[]] 101)
  have HG := Lib.hid hG
  clear hG
  have hcf : ∀ wz, Below (w.alloc (.cells #[.func (.func 62) #[] #[]] 101)).heap.size (w.alloc (.cells #[.func (.func 62) #[] #[]] 101)) wz → Calls Tryz.prog 95 #[.slice p l.length cap, .func (.func 96) #[] #[.pointer (some ⟨w.heap.size, 0, none⟩)]] wz fun e w' => e = .returned (.bool (!b)) ∧ Below wz.heap.size wz w' := fun wz hz => by
    have hT := (HL.out.2.below (bnew w _)).below hz
    have hix := index_pair pb _ l w.heap.size wz HL.out.1 hT (fun x hx w' hw' => not_pair pb x w.heap.size w' ((HG.out.to hz).to hw') (HP.out x hx))
    have HIX := Lib.hid hix
    clear hix hT
    go_enter Tryz.func95, Tryz.ntmps95
    go_wp2_with fail
    refine (HIX.out).mono ?_
    rintro e w1 ⟨n, rfl, hn, hb1⟩
    rw [HB.out] at hn
    have HN := Lib.hid hn
    clear hn
    go_wp2
    go_ret
    exact ⟨by rw [← HN.out]; rfl, hb1⟩
  have HCF := Lib.hid hcf
  clear hcf
  go_enter Tryz.func61, Tryz.ntmps61
  go_wp2_with fail
  refine (HCF.out _ (Below.refl _ _)).mono ?_
  rintro e w1 ⟨rfl, hb1⟩
  go_wp2
  go_ret
  exact ⟨ret_bool (by simp), (bnew _ _).trans (hb1.mono (by simp))⟩
end Go.Proofs.YtbclodbneonipaaGreat
namespace Go.Proofs.YtbclodbneonipaaGreat
open Go.RowKit N
set_option maxHeartbeats 1000000 in
theorem not_way (pb : Sg → Bool) (x : Sg) (g : Nat) (w : World) (hG : Has w g (.cells #[.func (.func 66) #[] #[]] 106)) 
    (hp : ∀ w, Calls Tryz.prog 66 #[.agg #[.int .i32 x.lo, .int .i32 x.hi, .int .u8 x.k]] w fun e w' => e = .returned (.bool (pb x)) ∧ Below w.heap.size w w') :
    Calls Tryz.prog 98 #[.agg #[.int .i32 x.lo, .int .i32 x.hi, .int .u8 x.k], .pointer (some ⟨g, 0, none⟩)] w fun e w' => e = .returned (.bool (!pb x)) ∧ Below w.heap.size w w' := by
  have hgl := hG.lt
  have c0 : w.cell? ⟨g, 0, none⟩ = some (.func (.func 66) #[] #[]) := hG.cell 0 rfl
  have HP := Lib.hid hp
  clear hp hG
  go_enter Tryz.func98, Tryz.ntmps98
  go_wp2_with fail
  refine (HP.out _).mono ?_
  rintro e w1 ⟨rfl, hb1⟩
  go_wp2
  go_ret
  exact ⟨ret_bool (by simp), (bnew _ _).trans (hb1.mono (by simp))⟩
set_option maxHeartbeats 2000000 in
theorem index_way (pb : Sg → Bool) (v : Value) (l : List Sg) (g : Nat) (w : World) (hl : l.length ≤ maxLen) (h : Lst w 3 encSg v l) 
    (hp : ∀ x ∈ l, ∀ w', Below w.heap.size w w' → Calls Tryz.prog 98 #[.agg #[.int .i32 x.lo, .int .i32 x.hi, .int .u8 x.k], .pointer (some ⟨g, 0, none⟩)] w' fun e w'' => e = .returned (.bool (!pb x)) ∧ Below w'.heap.size w' w'') :
    Calls Tryz.prog 113 #[v, .func (.func 98) #[] #[.pointer (some ⟨g, 0, none⟩)]] w fun e w' => ∃ n : Int, e = .returned (.int .i64 n) ∧ decide (0 ≤ n) = !(l.all pb) ∧ Below w.heap.size w w' := by
  unfold maxLen at hl
  obtain ⟨p, cap, rfl, hn, hc⟩ := h
  have HC := Lib.hid hc
  have HP := Lib.hid hp

  clear hc hp hn 
  go_enter Tryz.func113, Tryz.ntmps113
  go_wp2
  go_loopw [8] (fun i wr => ∃ k : Nat, k ≤ l.length ∧ i = .int .i64 k ∧ Hid ((l.take k).all pb = true) ∧ Below w.heap.size w wr) (fun i _ => l.length - (intOf i).toNat)
  case atStart => exact ⟨0, Nat.zero_le _, rfl, Lib.hid rfl, Below.refl _ _⟩
  case round =>
    obtain ⟨k, hk, rfl, HN, hB⟩ := hrel
    by_cases hlt : k < l.length
    · obtain ⟨g1, o, rfl, hg, hx⟩ := HC.out k l[k] (List.getElem?_eq_getElem hlt)
      have c0 := (hB.cell (p := ⟨g1, o + k * 3, none⟩) hg).trans (hx 0 _ rfl)
      have c1 := (hB.cell (p := ⟨g1, o + k * 3 + 1, none⟩) hg).trans (hx 1 _ rfl)
      have c2 := (hB.cell (p := ⟨g1, o + k * 3 + 2, none⟩) hg).trans (hx 2 _ rfl)
      obtain ⟨ek, hek⟩ : ∃ x, x = l[k] := ⟨_, rfl⟩
      rw [← hek] at c0 c1 c2
      have HK := Lib.hid hek
      have hmem : Hid (ek ∈ l) := Lib.hid (by rw [hek]; exact List.getElem_mem hlt)
      have HB := Lib.hid hB
      have hBs := hB.size
      clear hx hek hB
      have HPE := Lib.hid (HP.out ek hmem.out)
      cases hpb : pb ek with
      | true =>
        rw [hpb] at HPE
        have HS : Hid ((l.take (k + 1)).all pb = true) := Lib.hid (by
          rw [take_snoc l k hlt, List.all_append, HN.out, ← HK.out]; simp [hpb])
        clear hpb
        go_wp2_with fail
        refine (HPE.out _ HB.out).mono ?_
        rintro e w1 ⟨rfl, hb1⟩
        have HB1 := Lib.hid (HB.out.trans (hb1.mono hBs))
        clear hb1
        go_wp2
        go_roundw
        case rel => exact ⟨k + 1, by omega, by go_num, HS, HB1.out⟩
        case measure => simp [intOf]; omega
      | false =>
        rw [hpb] at HPE
        have HS : Hid (l.all pb = false) := Lib.hid (by
          rw [Bool.eq_false_iff]
          intro h
          have := List.all_eq_true.1 h ek hmem.out
          rw [hpb] at this; cases this)
        clear hpb
        go_wp2_with fail
        refine (HPE.out _ HB.out).mono ?_
        rintro e w1 ⟨rfl, hb1⟩
        have HB1 := Lib.hid (HB.out.trans (hb1.mono hBs))
        clear hb1
        go_wp2
        go_ret
        exact ⟨(k : Int), rfl, by rw [HS.out]; simp, HB1.out⟩
    · have HS : Hid (l.all pb = true) := Lib.hid (by
        have := HN.out
        rwa [List.take_of_length_le (by omega)] at this)
      have HB := Lib.hid hB
      clear hB
      go_wp2
      go_ret
      exact ⟨-1, rfl, by rw [HS.out]; rfl, HB.out⟩
set_option maxHeartbeats 1000000 in
theorem every_way (pb : Sg → Bool) (v : Value) (l : List Sg) (b : Bool) (hb : l.all pb = b) (w : World) (hl : l.length ≤ maxLen) (h : Lst w 3 encSg v l) 
    (hp : ∀ x ∈ l, ∀ w, Calls Tryz.prog 66 #[.agg #[.int .i32 x.lo, .int .i32 x.hi, .int .u8 x.k]] w fun e w' => e = .returned (.bool (pb x)) ∧ Below w.heap.size w w') :
    Calls Tryz.prog 65 #[v, .func (.func 66) #[] #[]] w fun e w' => e = .returned (.bool b) ∧ Below w.heap.size w w' := by
  have h0 := h
  obtain ⟨p, cap, rfl, _⟩ := h0
  have HL := Lib.hid (And.intro hl h)
  have HP := Lib.hid hp
  have HB := Lib.hid hb

  clear hl h hp hb 
  have hG := Has.new w (.cells #[.func (.func 66) #[] #[]] 106)
  have HG := Lib.hid hG
  clear hG
  have hcf : ∀ wz, Below (w.alloc (.cells #[.func (.func 66) #[] #[]] 106)).heap.size (w.alloc (.cells #[.func (.func 66) #[] #[]] 106)) wz → Calls Tryz.prog 97 #[.slice p l.length cap, .func (.func 98) #[] #[.pointer (some ⟨w.heap.size, 0, none⟩)]] wz fun e w' => e = .returned (.bool (!b)) ∧ Below wz.heap.size wz w' := fun wz hz => by
    have hT := (HL.out.2.below (bnew w _)).below hz
    have hix := index_way pb _ l w.heap.size wz HL.out.1 hT (fun x hx w' hw' => not_way pb x w.heap.size w' ((HG.out.to hz).to hw') (HP.out x hx))
    have HIX := Lib.hid hix
    clear hix hT
    go_enter Tryz.func97, Tryz.ntmps97
    go_wp2_with fail
    refine (HIX.out).mono ?_
    rintro e w1 ⟨n, rfl, hn, hb1⟩
    rw [HB.out] at hn
    have HN := Lib.hid hn
    clear hn
    go_wp2
    go_ret
    exact ⟨by rw [← HN.out]; rfl, hb1⟩
  have HCF := Lib.hid hcf
  clear hcf
  go_enter Tryz.func65, Tryz.ntmps65
  go_wp2_with fail
  refine (HCF.out _ (Below.refl _ _)).mono ?_
  rintro e w1 ⟨rfl, hb1⟩
  go_wp2
  go_ret
  exact ⟨ret_bool (by simp), (bnew _ _).trans (hb1.mono (by simp))⟩
end Go.Proofs.YtbclodbneonipaaGreat
