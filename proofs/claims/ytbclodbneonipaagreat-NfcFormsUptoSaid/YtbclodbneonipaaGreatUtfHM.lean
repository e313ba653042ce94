import Derived.Test.YtbclodbneonipaaGreatUBM
import Derived.Test.YtbclodbneonipaaGreatSeqBoxM
import Derived.BigQuiet
import Derived.Deep.QuietTactic
import Derived.Laws.OwnMore
namespace Go.Proofs.YtbclodbneonipaaGreat
open Go.RowKit
/-- v is a slice of the runes l in w -/
theorem enc_take (l : List Int) (k : Nat) (h : k < l.length) : U.enc (l.take (k + 1)) = U.enc (l.take k) ++ U.encR l[k] := by
  rw [take_snoc l k h, U.enc_app, U.enc_cons, U.enc_nil, List.append_nil]
theorem enc_take_len (l : List Int) (k : Nat) (h : k ≤ l.length) : (U.enc (l.take k)).length ≤ 4 * k := by
  have := U.enc_len (l.take k)
  rw [List.length_take_of_le h] at this
  exact this
theorem get_some {l : List Int} {k : Nat} (h : k < l.length) : l[k]? = some l[k] := List.getElem?_eq_getElem h
set_option maxHeartbeats 2000000 in
theorem encode_runes (v : Value) (l : List Int) (T : List UInt8) (hT : U.enc l = T) (hl : 4 * l.length ≤ 140737488355328) (w : World) (hv : RunesAt w v l) :
    Calls Tryz.prog 106 #[v] w fun e w' => e = .returned (.string ⟨T.toArray⟩) ∧ Below w.heap.size w w' := by
  obtain ⟨p, cap, rfl, hc⟩ := hv
  have HC := Lib.hid hc
  have HT := Lib.hid hT
  clear hc hT
  go_enter Tryz.func106, Tryz.ntmps106
  go_wp2_with fail
  go_loopw [3, 11] (fun m i wr => ∃ (k n : Nat), k ≤ l.length ∧ i = .int .i64 k ∧ m = .int .i64 n ∧ Hid ((U.enc (l.take k)).length = n) ∧ n ≤ 4 * k ∧ wr = w) (fun _ i _ => l.length - (intOf i).toNat)
  case atStart => exact ⟨0, 0, by omega, rfl, rfl, Lib.hid rfl, by omega, rfl⟩
  case round =>
    obtain ⟨k, n, hk, rfl, rfl, HN, hn, rfl⟩ := hrel
    by_cases hlt : k < l.length
    · obtain ⟨g, o, rfl, hg, hx⟩ := HC.out k l[k] (get_some hlt)
      have HE := Lib.hid (enc_take l k hlt)
      have hw := U.encR_len l[k]
      obtain ⟨L, HL⟩ : ∃ L, Hid ((U.encR l[k]).length = L) := ⟨_, Lib.hid rfl⟩
      rw [HL.out] at hw
      generalize l[k] = x at *
      go_wp2_with fail
      refine (width_is x L HL.out _).mono ?_
      rintro e w' ⟨rfl, rfl⟩
      go_wp2
      exact ⟨⟨k + 1, n + L, by omega, by go_num, by go_num, Lib.hid (by rw [HE.out, List.length_append, HN.out, HL.out]), by omega, trivial⟩, by simp [intOf]; omega⟩
    · have HF := Lib.hid (show T.length = n by rw [← HT.out, ← HN.out, List.take_of_length_le (by omega)])
      have hblk := heap_alloc_new wr (.cells #[.pointer none, .slice none 0 0] 157)
      go_wp2_with fail
      refine (grow_any wr.heap.size wr.heap.size n _ (Nat.le_refl _) hblk (by simp) (by omega)).mono ?_
      rintro e w1 ⟨rfl, hb1, hbel1⟩
      have hbel := ((Below.refl wr.heap.size wr).alloc (Nat.le_refl _) (.cells #[.pointer none, .slice none 0 0] 157)).trans hbel1
      clear hbel1 hblk HN
      obtain ⟨w0, rfl⟩ : ∃ w0 : World, w0 = wr := ⟨_, rfl⟩
      go_wp2_with fail
      go_loopw [24] (fun i wr2 => ∃ (k : Nat), k ≤ l.length ∧ i = .int .i64 k ∧ Bld w0.heap.size w0.heap.size (U.enc (l.take k)) wr2 ∧ Below w0.heap.size w0 wr2) (fun i _ => l.length - (intOf i).toNat)
      case atStart => exact ⟨0, by omega, rfl, hb1, hbel⟩
      case round =>
        clear hb1 hbel
        obtain ⟨k, hk, rfl, hb, hbel⟩ := hrel
        have hsz := hbel.size
        by_cases hlt : k < l.length
        · obtain ⟨g, o, rfl, hg, hx⟩ := HC.out k l[k] (get_some hlt)
          have HE := Lib.hid (enc_take l k hlt)
          have hel := enc_take_len l k (by omega)
          generalize l[k] = x at *
          have hx2 : wr.cell? ⟨g, o + k, none⟩ = some (.int .i32 x) := (hbel.cell (p := ⟨g, o + k, none⟩) hg).trans hx
          go_wp2_with fail
          refine (put_any w0.heap.size w0.heap.size (U.enc (l.take k)) x _ hb (by omega) (by omega)).mono ?_
          rintro e w3 ⟨rfl, hb3, hbel3, _⟩
          go_wp2
          go_roundw
          case rel =>
            exact ⟨k + 1, by omega, by go_num, by rw [HE.out]; exact hb3, hbel.trans hbel3⟩
          case measure => simp [intOf]; omega
        · have HF2 := Lib.hid (show U.enc (l.take k) = T by rw [← HT.out, List.take_of_length_le (by omega)])
          rw [HF2.out] at hb
          go_wp2_with fail
          refine (string_any w0.heap.size w0.heap.size T _ hb (by omega)).mono ?_
          rintro e w3 ⟨rfl, hbel3⟩
          go_wp2
          go_ret
          exact ⟨rfl, hbel.trans hbel3⟩
end Go.Proofs.YtbclodbneonipaaGreat
namespace Go.Proofs.YtbclodbneonipaaGreat
open Go.RowKit
theorem Runes.at {w : World} {base : Nat} {v : Value} {l : List Int} (h : Runes w base v l) : RunesAt w v l := by
  obtain ⟨hr, _⟩ := h
  have hr0 := hr
  rcases hr.2 with ⟨rfl, h0⟩ | ⟨g, cap, cur, rfl, hb, hgb, _⟩
  · have : l = [] := List.eq_nil_of_length_eq_zero h0
    subst this
    exact ⟨none, 0, rfl, fun k x hk => by simp at hk⟩
  · refine ⟨_, cap, rfl, fun k x hk => ⟨g, 0, rfl, (Array.getElem?_eq_some_iff.1 hgb).1, ?_⟩⟩
    have hkl : k < l.length := (List.getElem?_eq_some_iff.1 hk).1
    rw [Nat.zero_add, hr0.cellAt k (by omega), List.getElem?_map, hk]; rfl
theorem runes_lit {w : World} {g t : Nat} {l : List Int} (h : w.heap[g]? = some (.cells (l.map (Value.int .i32)).toArray t (0, 0))) (cap : Nat) : RunesAt w (.slice (some ⟨g, 0, none⟩) l.length cap) l := by
  refine ⟨_, cap, rfl, fun k x hk => ⟨g, 0, rfl, (Array.getElem?_eq_some_iff.1 h).1, ?_⟩⟩
  rw [Nat.zero_add, cell_of_row _ _ k _ _ _ h]
  simp [hk]
theorem get_ne {la lb : List Int} {k : Nat} (h1 : k < la.length) (h2 : k < lb.length) (h : la[k] ≠ lb[k]) : la ≠ lb := by
  intro e; subst e; exact h rfl
theorem ext_lists {la lb : List Int} (hl : la.length = lb.length) (h : ∀ j, j < la.length → la[j]? = lb[j]?) : la = lb := by
  apply List.ext_getElem? 
  intro j
  by_cases hj : j < la.length
  · exact h j hj
  · rw [List.getElem?_eq_none (by omega), List.getElem?_eq_none (by omega)]
set_option maxHeartbeats 1000000 in
theorem same_runes (va vb : Value) (la lb : List Int) (hm : la.length ≤ 140737488355328) (w : World) (ha : RunesAt w va la) (hb : RunesAt w vb lb) :
    Calls Tryz.prog 15 #[va, vb] w fun e w' => e = .returned (.bool (decide (la = lb))) ∧ Below w.heap.size w w' := by
  obtain ⟨p, cap, rfl, hA⟩ := ha
  obtain ⟨q, cap', rfl, hB⟩ := hb
  have HA := Lib.hid hA
  have HB := Lib.hid hB
  clear hA hB
  by_cases hl : la.length = lb.length
  · have hl2 : ((la.length : Int) != (lb.length : Int)) = false := by simp [hl]
    go_enter Tryz.func15, Tryz.ntmps15
    go_wp2_with fail
    go_loopw [13] (fun i wr => ∃ k : Nat, k ≤ la.length ∧ i = .int .i64 k ∧ Hid (∀ j, j < k → la[j]? = lb[j]?) ∧ Below w.heap.size w wr) (fun i _ => la.length - (intOf i).toNat)
    case atStart => exact ⟨0, by omega, rfl, Lib.hid (by intro j hj; omega), Below.refl _ _⟩
    case round =>
      obtain ⟨k, hk, rfl, HE, hbel⟩ := hrel
      by_cases hlt : k < la.length
      · obtain ⟨g, o, rfl, hg, hx⟩ := HA.out k la[k] (get_some hlt)
        have hlt2 : k < lb.length := by omega
        obtain ⟨g', o', rfl, hg', hx'⟩ := HB.out k lb[k] (get_some hlt2)
        have hx2 := (hbel.cell (p := ⟨g, o + k, none⟩) hg).trans hx
        have hx3 := (hbel.cell (p := ⟨g', o' + k, none⟩) hg').trans hx'
        have i1 : (k : Int) < (la.length : Int) := by omega
        have i2 : (k : Int) < (lb.length : Int) := by omega
        have HN := Lib.hid (get_ne hlt hlt2)
        have HS := Lib.hid (show la[k] = lb[k] → ∀ j, j < k + 1 → la[j]? = lb[j]? from fun e j hj => by
          by_cases hjk : j = k
          · subst hjk; rw [get_some hlt, get_some hlt2, e]
          · exact HE.out j (by omega))
        by_cases hxy : la[k] = lb[k]
        · have HS2 := Lib.hid (HS.out hxy)
          clear HS HN HE
          rw [← hxy] at hx3
          generalize la[k] = x at *
          clear hxy
          go_wp2_with fail
          go_quiet (fail)
          go_wp2
          exact ⟨⟨k + 1, by omega, by go_num, HS2, below_dn hbel _⟩, by simp [intOf]; omega⟩
        · have HD := Lib.hid (show decide (la = lb) = false from decide_eq_false (HN.out hxy))
          have hne : (la[k] != lb[k]) = true := by simpa using hxy
          clear HS HN HE
          generalize la[k] = x at *
          generalize lb[k] = y at *
          go_wp2_with fail
          go_quiet (fail)
          go_wp2
          go_ret
          exact ⟨by rw [HD.out]; rfl, below_dn hbel _⟩
      · have HD := Lib.hid (show decide (la = lb) = true from decide_eq_true (ext_lists hl (fun j hj => HE.out j (by omega))))
        go_wp2
        go_ret
        exact ⟨by rw [HD.out]; rfl, hbel⟩
  · have hl2 : ((la.length : Int) != (lb.length : Int)) = true := by simp; omega
    have HD := Lib.hid (show decide (la = lb) = false from decide_eq_false (fun e => hl (by rw [e])))
    go_enter Tryz.func15, Tryz.ntmps15
    go_wp2
    go_ret
    exact ⟨by rw [HD.out]; rfl, Below.refl _ _⟩
set_option maxHeartbeats 1000000 in
theorem equal_runes (va vb : Value) (la lb : List Int) (hm : la.length ≤ 140737488355328) (w : World) (ha : RunesAt w va la) (hb : RunesAt w vb lb) :
    Calls Tryz.prog 26 #[va, vb] w fun e w' => e = .returned (.bool (decide (la = lb))) ∧ Below w.heap.size w w' := by
  obtain ⟨p, cap, rfl, hA⟩ := ha
  obtain ⟨q, cap', rfl, hB⟩ := hb
  have HA := Lib.hid hA
  have HB := Lib.hid hB
  clear hA hB
  by_cases hl : la.length = lb.length
  · have hl2 : ((la.length : Int) != (lb.length : Int)) = false := by simp [hl]
    go_enter Tryz.func26, Tryz.ntmps26
    go_wp2_with fail
    go_loopw [13] (fun i wr => ∃ k : Nat, k ≤ la.length ∧ i = .int .i64 k ∧ Hid (∀ j, j < k → la[j]? = lb[j]?) ∧ Below w.heap.size w wr) (fun i _ => la.length - (intOf i).toNat)
    case atStart => exact ⟨0, by omega, rfl, Lib.hid (by intro j hj; omega), Below.refl _ _⟩
    case round =>
      obtain ⟨k, hk, rfl, HE, hbel⟩ := hrel
      by_cases hlt : k < la.length
      · obtain ⟨g, o, rfl, hg, hx⟩ := HA.out k la[k] (get_some hlt)
        have hlt2 : k < lb.length := by omega
        obtain ⟨g', o', rfl, hg', hx'⟩ := HB.out k lb[k] (get_some hlt2)
        have hx2 := (hbel.cell (p := ⟨g, o + k, none⟩) hg).trans hx
        have hx3 := (hbel.cell (p := ⟨g', o' + k, none⟩) hg').trans hx'
        have i1 : (k : Int) < (la.length : Int) := by omega
        have i2 : (k : Int) < (lb.length : Int) := by omega
        have HN := Lib.hid (get_ne hlt hlt2)
        have HS := Lib.hid (show la[k] = lb[k] → ∀ j, j < k + 1 → la[j]? = lb[j]? from fun e j hj => by
          by_cases hjk : j = k
          · subst hjk; rw [get_some hlt, get_some hlt2, e]
          · exact HE.out j (by omega))
        by_cases hxy : la[k] = lb[k]
        · have HS2 := Lib.hid (HS.out hxy)
          clear HS HN HE
          rw [← hxy] at hx3
          generalize la[k] = x at *
          clear hxy
          go_wp2_with fail
          go_quiet (fail)
          go_wp2
          exact ⟨⟨k + 1, by omega, by go_num, HS2, below_dn hbel _⟩, by simp [intOf]; omega⟩
        · have HD := Lib.hid (show decide (la = lb) = false from decide_eq_false (HN.out hxy))
          have hne : (la[k] != lb[k]) = true := by simpa using hxy
          clear HS HN HE
          generalize la[k] = x at *
          generalize lb[k] = y at *
          go_wp2_with fail
          go_quiet (fail)
          go_wp2
          go_ret
          exact ⟨by rw [HD.out]; rfl, below_dn hbel _⟩
      · have HD := Lib.hid (show decide (la = lb) = true from decide_eq_true (ext_lists hl (fun j hj => HE.out j (by omega))))
        go_wp2
        go_ret
        exact ⟨by rw [HD.out]; rfl, hbel⟩
  · have hl2 : ((la.length : Int) != (lb.length : Int)) = true := by simp; omega
    have HD := Lib.hid (show decide (la = lb) = false from decide_eq_false (fun e => hl (by rw [e])))
    go_enter Tryz.func26, Tryz.ntmps26
    go_wp2
    go_ret
    exact ⟨by rw [HD.out]; rfl, Below.refl _ _⟩
theorem same_is (va vb : Value) (la lb : List Int) (b : Bool) (hb : decide (la = lb) = b) (hm : la.length ≤ 140737488355328) (w : World) (h1 : RunesAt w va la) (h2 : RunesAt w vb lb) :
    Calls Tryz.prog 15 #[va, vb] w fun e w' => e = .returned (.bool b) ∧ Below w.heap.size w w' := by
  rw [← hb]; exact same_runes va vb la lb hm w h1 h2
theorem equal_is (va vb : Value) (la lb : List Int) (b : Bool) (hb : decide (la = lb) = b) (hm : la.length ≤ 140737488355328) (w : World) (h1 : RunesAt w va la) (h2 : RunesAt w vb lb) :
    Calls Tryz.prog 26 #[va, vb] w fun e w' => e = .returned (.bool b) ∧ Below w.heap.size w w' := by
  rw [← hb]; exact equal_runes va vb la lb hm w h1 h2
theorem rep_all (l : List Int) : l.map U.rep = l ↔ ∀ r ∈ l, U.May r := by
  induction l with
  | nil => simp
  | cons r l ih =>
    rw [List.map_cons, List.cons.injEq, ih]
    constructor
    · rintro ⟨h1, h2⟩ x hx
      rcases List.mem_cons.1 hx with rfl | hx
      · unfold U.rep at h1
        split at h1
        · assumption
        · rw [← h1]; unfold U.May; omega
      · exact h2 x hx
    · intro h
      refine ⟨?_, fun x hx => h x (by simp [hx])⟩
      unfold U.rep
      rw [if_pos (h r (by simp))]
set_option maxHeartbeats 1000000 in
theorem mayBe_is (v : Value) (l : List Int) (b : Bool) (hb : decide (l.map U.rep = l) = b) (hl : 16 * l.length ≤ 140737488355328) (w : World) (hv : RunesAt w v l) :
    Calls Tryz.prog 81 #[v] w fun e w' => e = .returned (.bool b) ∧ Below w.heap.size w w' := by
  obtain ⟨T, HT⟩ : ∃ T, Hid (U.enc l = T) := ⟨_, Lib.hid rfl⟩
  have hTl : T.length ≤ 4 * l.length := by rw [← HT.out]; exact U.enc_len l
  have HR : Hid (U.runesZ T = l.map U.rep) := Lib.hid (by rw [← HT.out]; exact U.runesZ_of_enc l)
  obtain ⟨p, cap, rfl, _⟩ := id hv
  have HV := Lib.hid hv
  have HB := Lib.hid hb
  clear hv hb
  go_enter Tryz.func81, Tryz.ntmps81
  go_wp2_with fail
  refine (encode_runes _ l T HT.out (by omega) _ HV.out).mono ?_
  rintro e w1 ⟨rfl, hb1⟩
  go_wp2_with fail
  refine (decode_runes ⟨T.toArray⟩ (l.map U.rep) HR.out (by show T.length * 4 ≤ _; omega) _).mono ?_
  rintro e w2 ⟨v2, rfl, hr2, hb2⟩
  have hA := hr2.at
  go_wp2_with fail
  refine (equal_is _ _ (l.map U.rep) l b HB.out (by simp; omega) _ hA ((HV.out.below hb1).below hb2)).mono ?_
  rintro e w3 ⟨rfl, hb3⟩
  go_wp2
  go_ret
  exact ⟨rfl, bel2 (bel2 hb1 hb2) hb3⟩
end Go.Proofs.YtbclodbneonipaaGreat
