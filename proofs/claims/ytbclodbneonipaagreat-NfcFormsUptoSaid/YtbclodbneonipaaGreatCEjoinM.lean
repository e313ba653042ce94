import Derived.Test.YtbclodbneonipaaGreatTGM
import Derived.Test.YtbclodbneonipaaGreatSDM
import Derived.Test.YtbclodbneonipaaGreatTCM
namespace Go.Proofs.YtbclodbneonipaaGreat
open Go.RowKit N
set_option maxHeartbeats 1000000 in
theorem not_join (pb : Sg → Bool) (x : Sg) (g : Nat) (w : World) (hG : Has w g (.cells #[.func (.func 69) #[] #[]] 111)) 
    (hp : ∀ w, Calls Tryz.prog 69 #[.agg #[.int .i32 x.lo, .int .i32 x.hi, .int .u8 x.k]] w fun e w' => e = .returned (.bool (pb x)) ∧ Below w.heap.size w w') :
    Calls Tryz.prog 100 #[.agg #[.int .i32 x.lo, .int .i32 x.hi, .int .u8 x.k], .pointer (some ⟨g, 0, none⟩)] w fun e w' => e = .returned (.bool (!pb x)) ∧ Below w.heap.size w w' := by
  have hgl := hG.lt
  have c0 : w.cell? ⟨g, 0, none⟩ = some (.func (.func 69) #[] #[]) := hG.cell 0 rfl
  have HP := Lib.hid hp
  clear hp hG
  go_enter Tryz.func100, Tryz.ntmps100
  go_wp2_with fail
  refine (HP.out _).mono ?_
  rintro e w1 ⟨rfl, hb1⟩
  go_wp2
  go_ret
  exact ⟨ret_bool (by simp), (bnew _ _).trans (hb1.mono (by simp))⟩
set_option maxHeartbeats 2000000 in
theorem index_join (pb : Sg → Bool) (v : Value) (l : List Sg) (g : Nat) (w : World) (hl : l.length ≤ maxLen) (h : Lst w 3 encSg v l) 
    (hp : ∀ x ∈ l, ∀ w', Below w.heap.size w w' → Calls Tryz.prog 100 #[.agg #[.int .i32 x.lo, .int .i32 x.hi, .int .u8 x.k], .pointer (some ⟨g, 0, none⟩)] w' fun e w'' => e = .returned (.bool (!pb x)) ∧ Below w'.heap.size w' w'') :
    Calls Tryz.prog 114 #[v, .func (.func 100) #[] #[.pointer (some ⟨g, 0, none⟩)]] w fun e w' => ∃ n : Int, e = .returned (.int .i64 n) ∧ decide (0 ≤ n) = !(l.all pb) ∧ Below w.heap.size w w' := by
  unfold maxLen at hl
  obtain ⟨p, cap, rfl, hn, hc⟩ := h
  have HC := Lib.hid hc
  have HP := Lib.hid hp

  clear hc hp hn 
  go_enter Tryz.func114, Tryz.ntmps114
  go_wp2
  go_loopw [8] (fun i wr => ∃ k : Nat, k ≤ l.length ∧ i = .int .i64 k ∧ Hid ((l.take k).all pb = true) ∧ Below w.heap.size w wr) (fun i _ => l.length - (intOf i).toNat)
  case atStart => exact ⟨0, Nat.zero_le _, rfl, Lib.hid rfl, Below.refl _ _⟩
  case round =>
    obtain ⟨k, hk, rfl, HN, hB⟩ := hrel
    by_cases hlt : k < l.length
    · obtain ⟨g1, o, rfl, hg, hx⟩ := HC.out k l[k] (List.getElem?_eq_getElem hlt)
      have c0 := (hB.cell (p := ⟨g1, o + k * 3, none⟩) hg).trans (hx 0 _ rfl)
      have c1 := (hB.cell (p := ⟨g1, o + k * 3 + 1, none⟩) hg).trans (hx 1 _ rfl)
      have c2 := (hB.cell (p := ⟨g1, o + k * 3 + 2, none⟩) hg).trans (hx 2 _ rfl)
      obtain ⟨ek, hek⟩ : ∃ x, x = l[k] := ⟨_, rfl⟩
      rw [← hek] at c0 c1 c2
      have HK := Lib.hid hek
      have hmem : Hid (ek ∈ l) := Lib.hid (by rw [hek]; exact List.getElem_mem hlt)
      have HB := Lib.hid hB
      have hBs := hB.size
      clear hx hek hB
      have HPE := Lib.hid (HP.out ek hmem.out)
      cases hpb : pb ek with
      | true =>
        rw [hpb] at HPE
        have HS : Hid ((l.take (k + 1)).all pb = true) := Lib.hid (by
          rw [take_snoc l k hlt, List.all_append, HN.out, ← HK.out]; simp [hpb])
        clear hpb
        go_wp2_with fail
        refine (HPE.out _ HB.out).mono ?_
        rintro e w1 ⟨rfl, hb1⟩
        have HB1 := Lib.hid (HB.out.trans (hb1.mono hBs))
        clear hb1
        go_wp2
        go_roundw
        case rel => exact ⟨k + 1, by omega, by go_num, HS, HB1.out⟩
        case measure => simp [intOf]; omega
      | false =>
        rw [hpb] at HPE
        have HS : Hid (l.all pb = false) := Lib.hid (by
          rw [Bool.eq_false_iff]
          intro h
          have := List.all_eq_true.1 h ek hmem.out
          rw [hpb] at this; cases this)
        clear hpb
        go_wp2_with fail
        refine (HPE.out _ HB.out).mono ?_
        rintro e w1 ⟨rfl, hb1⟩
        have HB1 := Lib.hid (HB.out.trans (hb1.mono hBs))
        clear hb1
        go_wp2
        go_ret
        exact ⟨(k : Int), rfl, by rw [HS.out]; simp, HB1.out⟩
    · have HS : Hid (l.all pb = true) := Lib.hid (by
        have := HN.out
        rwa [List.take_of_length_le (by omega)] at this)
      have HB := Lib.hid hB
      clear hB
      go_wp2
      go_ret
      exact ⟨-1, rfl, by rw [HS.out]; rfl, HB.out⟩
set_option maxHeartbeats 1000000 in
theorem every_join (pb : Sg → Bool) (v : Value) (l : List Sg) (b : Bool) (hb : l.all pb = b) (w : World) (hl : l.length ≤ maxLen) (h : Lst w 3 encSg v l) 
    (hp : ∀ x ∈ l, ∀ w, Calls Tryz.prog 69 #[.agg #[.int .i32 x.lo, .int .i32 x.hi, .int .u8 x.k]] w fun e w' => e = .returned (.bool (pb x)) ∧ Below w.heap.size w w') :
    Calls Tryz.prog 68 #[v, .func (.func 69) #[] #[]] w fun e w' => e = .returned (.bool b) ∧ Below w.heap.size w w' := by
  have h0 := h
  obtain ⟨p, cap, rfl, _⟩ := h0
  have HL := Lib.hid (And.intro hl h)
  have HP := Lib.hid hp
  have HB := Lib.hid hb

  clear hl h hp hb 
  have hG := Has.new w (.cells #[.func (.func 69) #[] #[]] 111)
  have HG := Lib.hid hG
  clear hG
  have hcf : ∀ wz, Below (w.alloc (.cells #[.func (.func 69) #[] #[]] 111)).heap.size (w.alloc (.cells #[.func (.func 69) #[] #[]] 111)) wz → Calls Tryz.prog 99 #[.slice p l.length cap, .func (.func 100) #[] #[.pointer (some ⟨w.heap.size, 0, none⟩)]] wz fun e w' => e = .returned (.bool (!b)) ∧ Below wz.heap.size wz w' := fun wz hz => by
    have hT := (HL.out.2.below (bnew w _)).below hz
    have hix := index_join pb _ l w.heap.size wz HL.out.1 hT (fun x hx w' hw' => not_join pb x w.heap.size w' ((HG.out.to hz).to hw') (HP.out x hx))
    have HIX := Lib.hid hix
    clear hix hT
    go_enter Tryz.func99, Tryz.ntmps99
    go_wp2_with fail
    refine (HIX.out).mono ?_
    rintro e w1 ⟨n, rfl, hn, hb1⟩
    rw [HB.out] at hn
    have HN := Lib.hid hn
    clear hn
    go_wp2
    go_ret
    exact ⟨by rw [← HN.out]; rfl, hb1⟩
  have HCF := Lib.hid hcf
  clear hcf
  go_enter Tryz.func68, Tryz.ntmps68
  go_wp2_with fail
  refine (HCF.out _ (Below.refl _ _)).mono ?_
  rintro e w1 ⟨rfl, hb1⟩
  go_wp2
  go_ret
  exact ⟨ret_bool (by simp), (bnew _ _).trans (hb1.mono (by simp))⟩
end Go.Proofs.YtbclodbneonipaaGreat
/-
  Entries that rise, none in two: the plain test. Program-free.
-/
namespace Go.Proofs.YtbclodbneonipaaGreat
def riseF (last : Int) : List (Int × Int) → Bool
  | [] => true
  | x :: l => if x.1 ≤ last ∨ x.2 < x.1 ∨ (x.1 < 55296 ∧ 57343 < x.2) then false else riseF x.2 l
end Go.Proofs.YtbclodbneonipaaGreat
namespace Go.Proofs.YtbclodbneonipaaGreat
open Go.RowKit N
set_option maxRecDepth 20000 in
set_option maxHeartbeats 4000000 in
theorem rise_span (v : Value) (l : List Sp) (b : Bool) (hb : riseF (-1) (l.map fun x => (x.lo, x.hi)) = b) (w : World) (hl : l.length ≤ maxLen) (h : Lst w 4 encSp v l) (hm : ∀ x ∈ l, ∃ p c, x.mv = .slice p x.map.length c) :
    Calls Tryz.prog 71 #[.agg #[v, .func (.func 101) #[] #[]]] w fun e w' => e = .returned (.bool b) ∧ Below w.heap.size w w' := by
  unfold maxLen at hl
  obtain ⟨p, cap, rfl, hn, hc⟩ := h
  have HC := Lib.hid hc
  have HBB := Lib.hid hb
  have HM := Lib.hid hm
  clear hc hn hb hm
  have hG := Has.new w (.cells #[.slice p l.length cap, .func (.func 101) #[] #[]] 115)
  have HG0 := Lib.hid hG
  clear hG
  go_enter Tryz.func71, Tryz.ntmps71
  go_wp2
  go_loopw [3, 11] (fun zv i wr => ∃ (k : Nat) (z : Int), zv = .int .i32 z ∧ k ≤ l.length ∧ i = .int .i64 k ∧ Hid (riseF z ((l.map fun x => (x.lo, x.hi)).drop k) = b) ∧ Below w.heap.size w wr ∧ Hid (Has wr w.heap.size (.cells #[.slice p l.length cap, .func (.func 101) #[] #[]] 115))) (fun _ i _ => l.length - (intOf i).toNat)
  case atStart => exact ⟨0, -1, rfl, Nat.zero_le _, rfl, HBB, bnew _ _, HG0⟩
  case round =>
    obtain ⟨k, z, rfl, hk, rfl, HN, hB, HG⟩ := hrel
    by_cases hlt : k < l.length
    · obtain ⟨g1, o, rfl, hg, hx⟩ := HC.out k l[k] (List.getElem?_eq_getElem hlt)
      have c0 := (hB.cell (p := ⟨g1, o + k * 4, none⟩) hg).trans (hx 0 _ rfl)
      have c1 := (hB.cell (p := ⟨g1, o + k * 4 + 1, none⟩) hg).trans (hx 1 _ rfl)
      have c2 := (hB.cell (p := ⟨g1, o + k * 4 + 2, none⟩) hg).trans (hx 2 _ rfl)
      have c3 := (hB.cell (p := ⟨g1, o + k * 4 + 3, none⟩) hg).trans (hx 3 _ rfl)
      obtain ⟨ek, hek⟩ : ∃ x, x = l[k] := ⟨_, rfl⟩
      rw [← hek] at c0 c1 c2 c3
      have HS : Hid ((if ek.lo ≤ z ∨ ek.hi < ek.lo ∨ (ek.lo < 55296 ∧ 57343 < ek.hi) then false else riseF ek.hi ((l.map fun x => (x.lo, x.hi)).drop (k + 1))) = b) := Lib.hid (by
        have := HN.out
        rw [List.drop_eq_getElem_cons (by simpa using hlt)] at this
        simp only [List.getElem_map, ← hek, riseF] at this
        exact this)
      have hmem : Hid (ek ∈ l) := Lib.hid (by rw [hek]; exact List.getElem_mem hlt)
      have r0 : wr.cell? ⟨w.heap.size, 0, none⟩ = some (.slice (some ⟨g1, o, none⟩) l.length cap) := HG.out.cell 0 rfl
      have r1 : wr.cell? ⟨w.heap.size, 1, none⟩ = some (.func (.func 101) #[] #[]) := HG.out.cell 1 rfl
      have hwl := HG.out.lt
      have HB := Lib.hid hB
      have hBs := hB.size
      clear hx hek hB HN
      obtain ⟨mp, mc, hmv⟩ := HM.out ek hmem.out
      rw [hmv] at c3
      clear hmv
      by_cases q1 : ek.lo ≤ z
      · have d1 : decide (ek.lo ≤ z) = true := decide_eq_true q1
        have HF : Hid (b = false) := Lib.hid (by rw [← HS.out, if_pos (.inl q1)])
        go_wp2_with fail
        refine (ends_status_any _ _ _ _ _).mono ?_
        rintro e w1 ⟨rfl, hb1⟩
        have HB1 := Lib.hid ((HB.out.alloc hBs _).trans (hb1.mono (by rw [World.size_alloc]; exact Nat.le_succ_of_le hBs)))
        have HG1 := Lib.hid ((HG.out.alloc _).to hb1)
        clear hb1
        go_wp2
        go_ret
        exact ⟨by rw [HF.out]; rfl, HB1.out⟩
      · have d1 : decide (ek.lo ≤ z) = false := decide_eq_false q1
        by_cases q2 : ek.hi < ek.lo
        · have d2 : decide (ek.hi < ek.lo) = true := decide_eq_true q2
          have HF : Hid (b = false) := Lib.hid (by rw [← HS.out, if_pos (.inr (.inl q2))])
          go_wp2_with fail
          refine (ends_status_any _ _ _ _ _).mono ?_
          rintro e w1 ⟨rfl, hb1⟩
          have HB1 := Lib.hid ((HB.out.alloc hBs _).trans (hb1.mono (by rw [World.size_alloc]; exact Nat.le_succ_of_le hBs)))
          have HG1 := Lib.hid ((HG.out.alloc _).to hb1)
          clear hb1
          go_wp2
          go_ret
          exact ⟨by rw [HF.out]; rfl, HB1.out⟩
        · have d2 : decide (ek.hi < ek.lo) = false := decide_eq_false q2
          by_cases q3 : ek.lo < 55296
          · have d3 : decide (ek.lo < 55296) = true := decide_eq_true q3
            by_cases q4 : 57343 < ek.hi
            · have d4 : decide (57343 < ek.hi) = true := decide_eq_true q4
              have HF : Hid (b = false) := Lib.hid (by rw [← HS.out, if_pos (.inr (.inr ⟨q3, q4⟩))])
              go_wp2_with fail
              refine (ends_status_any _ _ _ _ _).mono ?_
              rintro e w1 ⟨rfl, hb1⟩
              have HB1 := Lib.hid ((HB.out.alloc hBs _).trans (hb1.mono (by rw [World.size_alloc]; exact Nat.le_succ_of_le hBs)))
              have HG1 := Lib.hid ((HG.out.alloc _).to hb1)
              clear hb1
              go_wp2
              go_ret
              exact ⟨by rw [HF.out]; rfl, HB1.out⟩
            · have d4 : decide (57343 < ek.hi) = false := decide_eq_false q4
              have HF : Hid (riseF ek.hi ((l.map fun x => (x.lo, x.hi)).drop (k + 1)) = b) := Lib.hid (by rw [← HS.out, if_neg (by omega)])
              go_wp2_with fail
              refine (ends_status_any _ _ _ _ _).mono ?_
              rintro e w1 ⟨rfl, hb1⟩
              have HB1 := Lib.hid ((HB.out.alloc hBs _).trans (hb1.mono (by rw [World.size_alloc]; exact Nat.le_succ_of_le hBs)))
              have HG1 := Lib.hid ((HG.out.alloc _).to hb1)
              clear hb1
              go_wp2
              go_roundw
              case rel => exact ⟨k + 1, ek.hi, rfl, by omega, by go_num, HF, HB1.out, HG1⟩
              case measure => simp [intOf]; omega
          · have d3 : decide (ek.lo < 55296) = false := decide_eq_false q3
            have HF : Hid (riseF ek.hi ((l.map fun x => (x.lo, x.hi)).drop (k + 1)) = b) := Lib.hid (by rw [← HS.out, if_neg (by omega)])
            go_wp2_with fail
            refine (ends_status_any _ _ _ _ _).mono ?_
            rintro e w1 ⟨rfl, hb1⟩
            have HB1 := Lib.hid ((HB.out.alloc hBs _).trans (hb1.mono (by rw [World.size_alloc]; exact Nat.le_succ_of_le hBs)))
            have HG1 := Lib.hid ((HG.out.alloc _).to hb1)
            clear hb1
            go_wp2
            go_roundw
            case rel => exact ⟨k + 1, ek.hi, rfl, by omega, by go_num, HF, HB1.out, HG1⟩
            case measure => simp [intOf]; omega
    · have HF : Hid (b = true) := Lib.hid (by
        have := HN.out
        rw [List.drop_of_length_le (by simp; omega)] at this
        rw [← this]; rfl)
      have HB := Lib.hid hB
      clear hB
      go_wp2
      go_ret
      exact ⟨by rw [HF.out]; rfl, HB.out⟩
end Go.Proofs.YtbclodbneonipaaGreat
namespace Go.Proofs.YtbclodbneonipaaGreat
open Go.RowKit N
set_option maxRecDepth 20000 in
set_option maxHeartbeats 4000000 in
theorem rise_class (v : Value) (l : List Cl) (b : Bool) (hb : riseF (-1) (l.map fun x => (x.r, x.r)) = b) (w : World) (hl : l.length ≤ maxLen) (h : Lst w 2 encCl v l) :
    Calls Tryz.prog 73 #[.agg #[v, .func (.func 53) #[] #[]]] w fun e w' => e = .returned (.bool b) ∧ Below w.heap.size w w' := by
  unfold maxLen at hl
  obtain ⟨p, cap, rfl, hn, hc⟩ := h
  have HC := Lib.hid hc
  have HBB := Lib.hid hb

  clear hc hn hb 
  have hG := Has.new w (.cells #[.slice p l.length cap, .func (.func 53) #[] #[]] 70)
  have HG0 := Lib.hid hG
  clear hG
  go_enter Tryz.func73, Tryz.ntmps73
  go_wp2
  go_loopw [3, 11] (fun zv i wr => ∃ (k : Nat) (z : Int), zv = .int .i32 z ∧ k ≤ l.length ∧ i = .int .i64 k ∧ Hid (riseF z ((l.map fun x => (x.r, x.r)).drop k) = b) ∧ Below w.heap.size w wr ∧ Hid (Has wr w.heap.size (.cells #[.slice p l.length cap, .func (.func 53) #[] #[]] 70))) (fun _ i _ => l.length - (intOf i).toNat)
  case atStart => exact ⟨0, -1, rfl, Nat.zero_le _, rfl, HBB, bnew _ _, HG0⟩
  case round =>
    obtain ⟨k, z, rfl, hk, rfl, HN, hB, HG⟩ := hrel
    by_cases hlt : k < l.length
    · obtain ⟨g1, o, rfl, hg, hx⟩ := HC.out k l[k] (List.getElem?_eq_getElem hlt)
      have c0 := (hB.cell (p := ⟨g1, o + k * 2, none⟩) hg).trans (hx 0 _ rfl)
      have c1 := (hB.cell (p := ⟨g1, o + k * 2 + 1, none⟩) hg).trans (hx 1 _ rfl)
      obtain ⟨ek, hek⟩ : ∃ x, x = l[k] := ⟨_, rfl⟩
      rw [← hek] at c0 c1
      have HS : Hid ((if ek.r ≤ z ∨ ek.r < ek.r ∨ (ek.r < 55296 ∧ 57343 < ek.r) then false else riseF ek.r ((l.map fun x => (x.r, x.r)).drop (k + 1))) = b) := Lib.hid (by
        have := HN.out
        rw [List.drop_eq_getElem_cons (by simpa using hlt)] at this
        simp only [List.getElem_map, ← hek, riseF] at this
        exact this)
      have hmem : Hid (ek ∈ l) := Lib.hid (by rw [hek]; exact List.getElem_mem hlt)
      have r0 : wr.cell? ⟨w.heap.size, 0, none⟩ = some (.slice (some ⟨g1, o, none⟩) l.length cap) := HG.out.cell 0 rfl
      have r1 : wr.cell? ⟨w.heap.size, 1, none⟩ = some (.func (.func 53) #[] #[]) := HG.out.cell 1 rfl
      have hwl := HG.out.lt
      have HB := Lib.hid hB
      have hBs := hB.size
      clear hx hek hB HN
      by_cases q1 : ek.r ≤ z
      · have d1 : decide (ek.r ≤ z) = true := decide_eq_true q1
        have HF : Hid (b = false) := Lib.hid (by rw [← HS.out, if_pos (.inl q1)])
        go_wp2_with fail
        refine (ends_class_any _ _ _).mono ?_
        rintro e w1 ⟨rfl, hb1⟩
        have HB1 := Lib.hid ((HB.out.alloc hBs _).trans (hb1.mono (by rw [World.size_alloc]; exact Nat.le_succ_of_le hBs)))
        have HG1 := Lib.hid ((HG.out.alloc _).to hb1)
        clear hb1
        go_wp2
        go_ret
        exact ⟨by rw [HF.out]; rfl, HB1.out⟩
      · have d1 : decide (ek.r ≤ z) = false := decide_eq_false q1
        have d2 : decide (ek.r < ek.r) = false := decide_eq_false (by omega)
        have HF : Hid (riseF ek.r ((l.map fun x => (x.r, x.r)).drop (k + 1)) = b) := Lib.hid (by rw [← HS.out, if_neg (by omega)])
        by_cases q3 : ek.r < 55296
        · have d3 : decide (ek.r < 55296) = true := decide_eq_true q3
          have d4 : decide (57343 < ek.r) = false := decide_eq_false (by omega)
          go_wp2_with fail
          refine (ends_class_any _ _ _).mono ?_
          rintro e w1 ⟨rfl, hb1⟩
          have HB1 := Lib.hid ((HB.out.alloc hBs _).trans (hb1.mono (by rw [World.size_alloc]; exact Nat.le_succ_of_le hBs)))
          have HG1 := Lib.hid ((HG.out.alloc _).to hb1)
          clear hb1
          go_wp2
          go_roundw
          case rel => exact ⟨k + 1, ek.r, rfl, by omega, by go_num, HF, HB1.out, HG1⟩
          case measure => simp [intOf]; omega
        · have d3 : decide (ek.r < 55296) = false := decide_eq_false q3
          go_wp2_with fail
          refine (ends_class_any _ _ _).mono ?_
          rintro e w1 ⟨rfl, hb1⟩
          have HB1 := Lib.hid ((HB.out.alloc hBs _).trans (hb1.mono (by rw [World.size_alloc]; exact Nat.le_succ_of_le hBs)))
          have HG1 := Lib.hid ((HG.out.alloc _).to hb1)
          clear hb1
          go_wp2
          go_roundw
          case rel => exact ⟨k + 1, ek.r, rfl, by omega, by go_num, HF, HB1.out, HG1⟩
          case measure => simp [intOf]; omega
    · have HF : Hid (b = true) := Lib.hid (by
        have := HN.out
        rw [List.drop_of_length_le (by simp; omega)] at this
        rw [← this]; rfl)
      have HB := Lib.hid hB
      clear hB
      go_wp2
      go_ret
      exact ⟨by rw [HF.out]; rfl, HB.out⟩
end Go.Proofs.YtbclodbneonipaaGreat
namespace Go.Proofs.YtbclodbneonipaaGreat
open Go.RowKit N
set_option maxRecDepth 20000 in
set_option maxHeartbeats 4000000 in
theorem rise_pair (v : Value) (l : List Pa) (b : Bool) (hb : riseF (-1) (l.map fun x => (x.r, x.r)) = b) (w : World) (hl : l.length ≤ maxLen) (h : Lst w 4 encPa v l) :
    Calls Tryz.prog 74 #[.agg #[v, .func (.func 102) #[] #[]]] w fun e w' => e = .returned (.bool b) ∧ Below w.heap.size w w' := by
  unfold maxLen at hl
  obtain ⟨p, cap, rfl, hn, hc⟩ := h
  have HC := Lib.hid hc
  have HBB := Lib.hid hb

  clear hc hn hb 
  have hG := Has.new w (.cells #[.slice p l.length cap, .func (.func 102) #[] #[]] 121)
  have HG0 := Lib.hid hG
  clear hG
  go_enter Tryz.func74, Tryz.ntmps74
  go_wp2
  go_loopw [3, 11] (fun zv i wr => ∃ (k : Nat) (z : Int), zv = .int .i32 z ∧ k ≤ l.length ∧ i = .int .i64 k ∧ Hid (riseF z ((l.map fun x => (x.r, x.r)).drop k) = b) ∧ Below w.heap.size w wr ∧ Hid (Has wr w.heap.size (.cells #[.slice p l.length cap, .func (.func 102) #[] #[]] 121))) (fun _ i _ => l.length - (intOf i).toNat)
  case atStart => exact ⟨0, -1, rfl, Nat.zero_le _, rfl, HBB, bnew _ _, HG0⟩
  case round =>
    obtain ⟨k, z, rfl, hk, rfl, HN, hB, HG⟩ := hrel
    by_cases hlt : k < l.length
    · obtain ⟨g1, o, rfl, hg, hx⟩ := HC.out k l[k] (List.getElem?_eq_getElem hlt)
      have c0 := (hB.cell (p := ⟨g1, o + k * 4, none⟩) hg).trans (hx 0 _ rfl)
      have c1 := (hB.cell (p := ⟨g1, o + k * 4 + 1, none⟩) hg).trans (hx 1 _ rfl)
      have c2 := (hB.cell (p := ⟨g1, o + k * 4 + 2, none⟩) hg).trans (hx 2 _ rfl)
      have c3 := (hB.cell (p := ⟨g1, o + k * 4 + 3, none⟩) hg).trans (hx 3 _ rfl)
      obtain ⟨ek, hek⟩ : ∃ x, x = l[k] := ⟨_, rfl⟩
      rw [← hek] at c0 c1 c2 c3
      have HS : Hid ((if ek.r ≤ z ∨ ek.r < ek.r ∨ (ek.r < 55296 ∧ 57343 < ek.r) then false else riseF ek.r ((l.map fun x => (x.r, x.r)).drop (k + 1))) = b) := Lib.hid (by
        have := HN.out
        rw [List.drop_eq_getElem_cons (by simpa using hlt)] at this
        simp only [List.getElem_map, ← hek, riseF] at this
        exact this)
      have hmem : Hid (ek ∈ l) := Lib.hid (by rw [hek]; exact List.getElem_mem hlt)
      have r0 : wr.cell? ⟨w.heap.size, 0, none⟩ = some (.slice (some ⟨g1, o, none⟩) l.length cap) := HG.out.cell 0 rfl
      have r1 : wr.cell? ⟨w.heap.size, 1, none⟩ = some (.func (.func 102) #[] #[]) := HG.out.cell 1 rfl
      have hwl := HG.out.lt
      have HB := Lib.hid hB
      have hBs := hB.size
      clear hx hek hB HN
      by_cases q1 : ek.r ≤ z
      · have d1 : decide (ek.r ≤ z) = true := decide_eq_true q1
        have HF : Hid (b = false) := Lib.hid (by rw [← HS.out, if_pos (.inl q1)])
        go_wp2_with fail
        refine (ends_pair_any _ _ _ _ _).mono ?_
        rintro e w1 ⟨rfl, hb1⟩
        have HB1 := Lib.hid ((HB.out.alloc hBs _).trans (hb1.mono (by rw [World.size_alloc]; exact Nat.le_succ_of_le hBs)))
        have HG1 := Lib.hid ((HG.out.alloc _).to hb1)
        clear hb1
        go_wp2
        go_ret
        exact ⟨by rw [HF.out]; rfl, HB1.out⟩
      · have d1 : decide (ek.r ≤ z) = false := decide_eq_false q1
        have d2 : decide (ek.r < ek.r) = false := decide_eq_false (by omega)
        have HF : Hid (riseF ek.r ((l.map fun x => (x.r, x.r)).drop (k + 1)) = b) := Lib.hid (by rw [← HS.out, if_neg (by omega)])
        by_cases q3 : ek.r < 55296
        · have d3 : decide (ek.r < 55296) = true := decide_eq_true q3
          have d4 : decide (57343 < ek.r) = false := decide_eq_false (by omega)
          go_wp2_with fail
          refine (ends_pair_any _ _ _ _ _).mono ?_
          rintro e w1 ⟨rfl, hb1⟩
          have HB1 := Lib.hid ((HB.out.alloc hBs _).trans (hb1.mono (by rw [World.size_alloc]; exact Nat.le_succ_of_le hBs)))
          have HG1 := Lib.hid ((HG.out.alloc _).to hb1)
          clear hb1
          go_wp2
          go_roundw
          case rel => exact ⟨k + 1, ek.r, rfl, by omega, by go_num, HF, HB1.out, HG1⟩
          case measure => simp [intOf]; omega
        · have d3 : decide (ek.r < 55296) = false := decide_eq_false q3
          go_wp2_with fail
          refine (ends_pair_any _ _ _ _ _).mono ?_
          rintro e w1 ⟨rfl, hb1⟩
          have HB1 := Lib.hid ((HB.out.alloc hBs _).trans (hb1.mono (by rw [World.size_alloc]; exact Nat.le_succ_of_le hBs)))
          have HG1 := Lib.hid ((HG.out.alloc _).to hb1)
          clear hb1
          go_wp2
          go_roundw
          case rel => exact ⟨k + 1, ek.r, rfl, by omega, by go_num, HF, HB1.out, HG1⟩
          case measure => simp [intOf]; omega
    · have HF : Hid (b = true) := Lib.hid (by
        have := HN.out
        rw [List.drop_of_length_le (by simp; omega)] at this
        rw [← this]; rfl)
      have HB := Lib.hid hB
      clear hB
      go_wp2
      go_ret
      exact ⟨by rw [HF.out]; rfl, HB.out⟩
end Go.Proofs.YtbclodbneonipaaGreat
