import Derived.Test.YtnjnhgeafbofkaaDoorF3M
import Derived.Test.YtnjnhgeafbofkaaDoorF6M
/-
  The contract of the document's Same: it answers whether two lists of pairs are one.
-/
namespace Go.Proofs.YtnjnhgeafbofkaaDoor
open Go.RowKit
theorem get_neF {la lb : List Fd} {k : Nat} (h1 : k < la.length) (h2 : k < lb.length) (h : la[k] ≠ lb[k]) : la ≠ lb := by
  intro e; subst e; exact h rfl
theorem ext_listsF {la lb : List Fd} (hl : la.length = lb.length) (h : ∀ j : Nat, j < la.length → la[j]? = lb[j]?) : la = lb := by
  apply List.ext_getElem? 
  intro j
  by_cases hj : j < la.length
  · exact h j hj
  · rw [List.getElem?_eq_none (by omega), List.getElem?_eq_none (by omega)]
set_option maxHeartbeats 1000000 in
theorem same_pairs (va vb : Value) (la lb : List Fd) (hm : la.length ≤ 140737488355328) (hm2 : lb.length ≤ 140737488355328) (w : World) (ha : Lst w va la) (hb : Lst w vb lb) :
    Calls Tryd.prog 14 #[va, vb] w fun e w' => e = .returned (.bool (decide (la = lb))) ∧ Below w.heap.size w w' := by
  obtain ⟨p, cap, rfl, hA⟩ := ha
  obtain ⟨q, cap', rfl, hB⟩ := hb
  have HA := Lib.hid hA
  have HB := Lib.hid hB
  clear hA hB
  by_cases hl : la.length = lb.length
  · have hl2 : ((la.length : Int) != (lb.length : Int)) = false := by simp [hl]
    have HL := Lib.hid hl
    clear hl
    go_enter Tryd.func14, Tryd.ntmps14
    go_wp2_with fail
    go_loopw [13] (fun i wr => ∃ k : Nat, k ≤ la.length ∧ i = .int .i64 k ∧ Hid (∀ j : Nat, j < k → la[j]? = lb[j]?) ∧ Below w.heap.size w wr) (fun i _ => la.length - (intOf i).toNat)
    case atStart => exact ⟨0, by omega, rfl, Lib.hid (by intro j hj; omega), Below.refl _ _⟩
    case round =>
      obtain ⟨k, hk, rfl, HE, hbel⟩ := hrel
      by_cases hlt : k < la.length
      · obtain ⟨g, o, rfl, hg, hx, hy⟩ := HA.out k la[k] (getF hlt)
        have hlt2 : k < lb.length := by have := HL.out; omega
        obtain ⟨g', o', rfl, hg', hx', hy'⟩ := HB.out k lb[k] (getF hlt2)
        have c1 := (hbel.cell (p := ⟨g, o + k * 2, none⟩) hg).trans hx
        have c2 := (hbel.cell (p := ⟨g, o + k * 2 + 1, none⟩) hg).trans hy
        have c3 := (hbel.cell (p := ⟨g', o' + k * 2, none⟩) hg').trans hx'
        have c4 := (hbel.cell (p := ⟨g', o' + k * 2 + 1, none⟩) hg').trans hy'
        have i1 : (k : Int) < (la.length : Int) := by omega
        have i2 : (k : Int) < (lb.length : Int) := by omega
        have HN := Lib.hid (get_neF hlt hlt2)
        have HS := Lib.hid (show la[k] = lb[k] → ∀ j : Nat, j < k + 1 → la[j]? = lb[j]? from fun e j hj => by
          by_cases hjk : j = k
          · subst hjk; rw [getF hlt, getF hlt2, e]
          · exact HE.out j (by omega))
        clear hx hy hx' hy'
        by_cases hxy : la[k] = lb[k]
        · have HS2 := Lib.hid (HS.out hxy)
          clear HS HN HE
          rw [← hxy] at c3 c4
          generalize la[k] = x at *
          obtain ⟨x1, x2⟩ := x
          clear hxy
          go_wp2_with fail
          go_quiet (fail)
          go_wp2
          go_roundw
          case rel =>
            exact ⟨k + 1, by omega, by go_num, HS2, below_dn hbel _⟩
          case measure => simp [intOf]; omega
        · have HD := Lib.hid (show decide (la = lb) = false from decide_eq_false (HN.out hxy))
          clear HS HN HE
          generalize la[k] = x at *
          generalize lb[k] = y at *
          obtain ⟨x1, x2⟩ := x
          obtain ⟨y1, y2⟩ := y
          by_cases h1 : x1 = y1
          · subst h1
            have h2 : x2 ≠ y2 := fun e => hxy (by rw [e])
            have b2 : (x2.toList == y2.toList) = false := (Lib.bytes_beq_false_iff x2 y2).2 h2
            clear hxy h2
            go_wp2_with fail
            go_quiet (fail)
            go_wp2
            go_ret
            exact ⟨by rw [HD.out]; rfl, below_dn hbel _⟩
          · have b1 : (x1.toList == y1.toList) = false := (Lib.bytes_beq_false_iff x1 y1).2 h1
            clear hxy h1
            go_wp2_with fail
            go_quiet (fail)
            go_wp2
            go_ret
            exact ⟨by rw [HD.out]; rfl, below_dn hbel _⟩
      · have HD := Lib.hid (show decide (la = lb) = true from decide_eq_true (ext_listsF HL.out (fun j hj => HE.out j (by omega))))
        go_wp2
        go_ret
        exact ⟨by rw [HD.out]; rfl, hbel⟩
  · have hl2 : ((la.length : Int) != (lb.length : Int)) = true := by simp; omega
    have HD := Lib.hid (show decide (la = lb) = false from decide_eq_false (fun e => hl (by rw [e])))
    go_enter Tryd.func14, Tryd.ntmps14
    go_wp2
    go_ret
    exact ⟨by rw [HD.out]; rfl, Below.refl _ _⟩
end Go.Proofs.YtnjnhgeafbofkaaDoor
/-
  The contract of bastionlaw11.lives: it answers true; nothing that was there is changed. Conditions: bytealg's MaxLen has been set.
-/
namespace Go.Proofs.YtnjnhgeafbofkaaDoor
open Go.RowKit
abbrev encFs (l : List Fd) : List Value := Ks.encFs l
abbrev paL (l : List UInt8) : List Fd := Ks.paL l
abbrev PaRet (w : World) (l : List Fd) (e : Ending) (w' : World) : Prop := Ks.PaRet w l e w'
theorem encFs_at : ∀ (l : List Fd) (rest : List Value) (i : Nat) (x : Fd), l[i]? = some x → (encFs l ++ rest)[i * 2]? = some (.string x.1) ∧ (encFs l ++ rest)[i * 2 + 1]? = some (.string x.2)
  | [], _, i, _, h => by simp at h
  | y :: l, rest, 0, x, h => by
    simp at h; subst h
    exact ⟨rfl, rfl⟩
  | y :: l, rest, i + 1, x, h => by
    have h2 := encFs_at l rest i x (by simpa using h)
    have e : encFs (y :: l) ++ rest = .string y.1 :: .string y.2 :: (encFs l ++ rest) := rfl
    rw [e, show (i + 1) * 2 = i * 2 + 1 + 1 by omega]
    exact h2
theorem lst_row {w : World} {g t : Nat} {l : List Fd} {rest : List Value} (h : w.heap[g]? = some (.cells (encFs l ++ rest).toArray t (0, 0))) (cap : Nat) : Lst w (.slice (some ⟨g, 0, none⟩) l.length cap) l := by
  refine ⟨_, cap, rfl, fun i x hi => ⟨g, 0, rfl, lt_of_block h, ?_, ?_⟩⟩
  · rw [Nat.zero_add, cell_of_row _ _ _ _ _ _ h, List.getElem?_toArray]; exact (encFs_at l rest i x hi).1
  · rw [Nat.zero_add, cell_of_row _ _ _ _ _ _ h, List.getElem?_toArray]; exact (encFs_at l rest i x hi).2
theorem lst_new (w : World) (l : List Fd) (cs : Array Value) (h : (encFs l).toArray = cs) (t : TypeId) (n : Nat) (hn : l.length = n) (cap : Nat) : Lst (w.alloc (.cells cs t)) (.slice (some ⟨w.heap.size, 0, none⟩) n cap) l := by
  subst hn; subst h
  exact lst_row (rest := []) (by rw [List.append_nil]; exact heap_alloc_new w _) cap
theorem lst_own {w : World} {B : Nat} {v : Value} {l : List Fd} (h : w.ownsRow B 38 2 v l.length (encFs l)) : Lst w v l := by
  rcases h.2 with ⟨rfl, h0⟩ | ⟨g, cap, cur, rfl, _, hg, _, _, hcs, ht⟩
  · have : l = [] := List.eq_nil_of_length_eq_zero h0
    subst this
    exact ⟨none, 0, rfl, fun i x hi => by simp at hi⟩
  · refine lst_row (t := 38) (rest := cur.toList.drop (l.length * 2)) ?_ cap
    have e : (encFs l ++ cur.toList.drop (l.length * 2)).toArray = cur := by
      rw [← ht, List.take_append_drop]
    rw [e]; exact hg
def liveL : List Fd := [(⟨#[97, 32, 98]⟩, ⟨#[195, 169, 38]⟩), (⟨#[99]⟩, ⟨#[]⟩)]
def liveK : List Fd := [(⟨#[97, 32, 98]⟩, ⟨#[]⟩), (⟨#[]⟩, ⟨#[99]⟩), (⟨#[37, 122, 122]⟩, ⟨#[49]⟩)]
theorem live_pr : (if 256 < liveL.length then (([] : List UInt8), (3 : Int)) else if liveL.any longF then ([], 4) else (prL liveL, 0)) = ([97, 43, 98, 61, 37, 67, 51, 37, 65, 57, 37, 50, 54, 38, 99, 61], 0) := by decide +kernel
theorem live_pa : (paL [97, 43, 98, 38, 61, 99, 38, 38, 37, 122, 122, 61, 49]) = liveK := by
  have : (Ks.paL [97, 43, 98, 38, 61, 99, 38, 38, 37, 122, 122, 61, 49]).map (fun x => (x.1.data.toList, x.2.data.toList)) = liveK.map (fun x => (x.1.data.toList, x.2.data.toList)) := by decide +kernel
  have inj : ∀ (a b : List Fd), a.map (fun x => (x.1.data.toList, x.2.data.toList)) = b.map (fun x => (x.1.data.toList, x.2.data.toList)) → a = b := by
    intro a
    induction a with
    | nil => intro b h; cases b with
      | nil => rfl
      | cons _ _ => simp at h
    | cons x a ih => intro b h; cases b with
      | nil => simp at h
      | cons y b =>
        simp only [List.map_cons, List.cons.injEq, Prod.mk.injEq] at h
        obtain ⟨⟨h1, h2⟩, h3⟩ := h
        rw [ih b h3]
        have e1 : x.1 = y.1 := ByteArray.ext (Array.ext' h1)
        have e2 : x.2 = y.2 := ByteArray.ext (Array.ext' h2)
        rw [show x = y from Prod.ext e1 e2]
  exact inj _ _ this
theorem same_isP (va vb : Value) (la lb : List Fd) (b : Bool) (hb : decide (la = lb) = b) (hm : la.length ≤ 140737488355328) (hm2 : lb.length ≤ 140737488355328) (w : World) (h1 : Lst w va la) (h2 : Lst w vb lb) :
    Calls Tryd.prog 14 #[va, vb] w fun e w' => e = .returned (.bool b) ∧ Below w.heap.size w w' := by
  rw [← hb]; exact same_pairs va vb la lb hm hm2 w h1 h2
set_option maxHeartbeats 2000000 in
set_option maxRecDepth 100000 in
theorem lives_is (w : World) (hM : ML w) : Calls Tryd.prog 13 #[] w fun e w' => e = .returned (.bool true) ∧ Below w.heap.size w w' := by
  have HM := Lib.hid hM
  have h1 : Lst (w.alloc (.cells #[.string ⟨#[97, 32, 98]⟩, .string ⟨#[195, 169, 38]⟩, .string ⟨#[99]⟩, .string ⟨#[]⟩] 38)) (.slice (some ⟨w.heap.size, 0, none⟩) 2 2) liveL := lst_new w liveL _ rfl 38 2 rfl 2
  have HP := Lib.hid (print_any _ liveL (by decide) _ (hM.to (bnew w _)) h1 _ _ live_pr)
  clear h1 hM
  go_enter Tryd.func13, Tryd.ntmps13
  go_wp2_with fail
  refine HP.out.mono ?_
  rintro e w1 ⟨rfl, hb1⟩
  have HB1 := Lib.hid (((Below.refl _ w).alloc (Nat.le_refl _) (.cells #[.string ⟨#[97, 32, 98]⟩, .string ⟨#[195, 169, 38]⟩, .string ⟨#[99]⟩, .string ⟨#[]⟩] 38)).trans (hb1.mono (by simp)))
  have HM1 := Lib.hid (HM.out.to HB1.out)
  have HPA := Lib.hid (Ks.parse_is ⟨#[97, 43, 98, 38, 61, 99, 38, 38, 37, 122, 122, 61, 49]⟩ (by decide) w1 HM1.out)
  clear hb1
  go_wp2_with fail
  refine HPA.out.mono ?_
  rintro e w2 ⟨h2, hb2⟩
  have live_pa' : Ks.paL (⟨#[97, 43, 98, 38, 61, 99, 38, 38, 37, 122, 122, 61, 49]⟩ : ByteArray).data.toList = liveK := live_pa
  rw [live_pa', if_neg (by decide)] at h2
  obtain ⟨v, rfl, hown⟩ := h2
  have HL := Lib.hid (lst_own hown)
  have HB2 := Lib.hid (bel2 HB1.out hb2)
  clear hown hb2 live_pa'
  obtain ⟨p, cc, hv, _⟩ := HL.out
  subst hv
  have HS := Lib.hid (same_isP (.slice p liveK.length cc) (.slice (some ⟨w2.heap.size, 0, none⟩) 3 3) liveK liveK true (decide_eq_true rfl) (by decide) (by decide) (w2.alloc (.cells #[.string ⟨#[97, 32, 98]⟩, .string ⟨#[]⟩, .string ⟨#[]⟩, .string ⟨#[99]⟩, .string ⟨#[37, 122, 122]⟩, .string ⟨#[49]⟩] 38)) (HL.out.below (bnew _ _)) (lst_new w2 liveK _ rfl 38 3 rfl 3))
  go_wp2_with fail
  refine HS.out.mono ?_
  rintro e w3 ⟨rfl, hb3⟩
  have HB3 := Lib.hid ((HB2.out.alloc HB2.out.size (.cells #[.string ⟨#[97, 32, 98]⟩, .string ⟨#[]⟩, .string ⟨#[]⟩, .string ⟨#[99]⟩, .string ⟨#[37, 122, 122]⟩, .string ⟨#[49]⟩] 38)).trans (hb3.mono (by have := HB2.out.size; simp; omega)))
  clear hb3
  go_wp2
  go_ret
  exact ⟨rfl, HB3.out⟩
end Go.Proofs.YtnjnhgeafbofkaaDoor
/-
  Plain words for what Parse answers; parts of two texts with an & between; a list of pairs behind another one, appended.
-/
namespace Go.Proofs.YtnjnhgeafbofkaaDoor
open Go.RowKit
/-- Parse's error -/
def parI (l : List UInt8) : Int := if 65536 < l.length then 4 else if 256 < (paL l).length then 3 else 0
def parL (l : List UInt8) : List Fd := if parI l = 0 then paL l else []
theorem parI_cases (l : List UInt8) : parI l = 0 ∨ parI l = 3 ∨ parI l = 4 := by
  unfold parI; split
  · exact .inr (.inr rfl)
  · split
    · exact .inr (.inl rfl)
    · exact .inl rfl
theorem parL_len (l : List UInt8) : (parL l).length ≤ 256 := by
  unfold parL
  split
  · rename_i h
    unfold parI at h
    split at h
    · cases h
    · split at h
      · cases h
      · unfold paL at *; omega
  · simp
theorem parse_any (u : ByteArray) (hm : u.size ≤ 281474976710656) (l : List Fd) (hl : parL u.data.toList = l) (r : Int) (hr : parI u.data.toList = r) (w : World) (hM : ML w) :
    Calls Tryd.prog 11 #[.string u] w fun e w' => (∃ q cc, e = .returned (.tuple #[.slice q l.length cc, .int .i64 r]) ∧ w'.ownsRow w.heap.size 38 2 (.slice q l.length cc) l.length (encFs l)) ∧ Below w.heap.size w w' := by
  by_cases h1 : 65536 < u.size
  · have e1 : parI u.data.toList = 4 := by unfold parI; rw [len_list, if_pos h1]
    have e2 : parL u.data.toList = [] := by unfold parL; rw [e1]; rfl
    rw [e1] at hr; subst hr
    rw [e2] at hl; subst hl
    exact (Ks.parse_long u h1 hm w).mono fun e w' ⟨h, hb⟩ => ⟨⟨none, 0, h, World.ownsRow_nil _ _ _ _⟩, hb⟩
  · have h := Ks.parse_is u (by omega) w hM
    by_cases h2 : 256 < (paL u.data.toList).length
    · have e1 : parI u.data.toList = 3 := by unfold parI; rw [len_list, if_neg h1, if_pos h2]
      have e2 : parL u.data.toList = [] := by unfold parL; rw [e1]; rfl
      rw [e1] at hr; subst hr
      rw [e2] at hl; subst hl
      refine h.mono fun e w' ⟨h, hb⟩ => ?_
      rw [if_pos h2] at h
      exact ⟨⟨none, 0, h, World.ownsRow_nil _ _ _ _⟩, hb⟩
    · have e1 : parI u.data.toList = 0 := by unfold parI; rw [len_list, if_neg h1, if_neg h2]
      have e2 : parL u.data.toList = paL u.data.toList := by unfold parL; rw [e1]; rfl
      rw [e1] at hr; subst hr
      rw [e2] at hl; subst hl
      refine h.mono fun e w' ⟨h, hb⟩ => ?_
      rw [if_neg h2] at h
      obtain ⟨v, he, ho⟩ := h
      obtain ⟨q, cc, rfl⟩ := Ks.own_slice ho
      exact ⟨⟨q, cc, he, ho⟩, hb⟩
theorem parts_join (c : UInt8) (a b : List UInt8) : Ks.partsAt c (a ++ c :: b) = Ks.partsAt c a ++ Ks.partsAt c b := by
  induction a with
  | nil => simp [Ks.partsAt]
  | cons x a ih =>
    rw [List.cons_append]
    by_cases hx : x = c
    · subst hx
      rw [Ks.partsAt, if_pos rfl, Ks.partsAt, if_pos rfl, ih]; rfl
    · rw [Ks.partsAt, if_neg hx, Ks.partsAt, if_neg hx, ih]
      cases h : Ks.partsAt c a with
      | nil => exact absurd h (Ks.partsAt_ne c a)
      | cons p q => simp
theorem pa_join (a b : List UInt8) : paL (a ++ 38 :: b) = paL a ++ paL b := by
  show Ks.fdsOf _ = Ks.fdsOf _ ++ Ks.fdsOf _
  rw [parts_join]
  unfold Ks.fdsOf
  rw [List.filter_append, List.map_append]
theorem encFs_app (a b : List Fd) : encFs (a ++ b) = encFs a ++ encFs b := List.flatMap_append
theorem encFs_one (l : List Fd) : ∀ u ∈ encFs l, u.oneCell' = true := by
  intro u hu
  obtain ⟨x, _, hx⟩ := List.mem_flatMap.1 hu
  simp only [encF, List.mem_cons, List.mem_nil_iff, or_false] at hx
  rcases hx with rfl | rfl <;> rfl
/-- a row of pairs of the call's own -/
abbrev OwnF (w : World) (B : Nat) (v : Value) (l : List Fd) : Prop := w.ownsRow B 38 2 v l.length (encFs l)
theorem run_append_pairs {w : World} (ty : TypeId) (B : Nat) (v : Value) (l : List Fd) (hown : OwnF w B v l) (B2 : Nat) (v2 : Value) (l2 : List Fd) (h2 : OwnF w B2 v2 l2)
    (hlen : l.length + l2.length ≤ 1048576) (hbase : B ≤ w.heap.size) :
    ∃ v' w', (Builtin.append_ #[22, 22] ty #[v, v2]).run Tryd.prog w = .ok v' w' ∧ OwnF w' B v' (l ++ l2) ∧ w.grownBy w' v.ownBlock ∧ (v'.ownBlock = v.ownBlock ∨ v'.ownBlock = some w.heap.size) := by
  obtain ⟨i0, hi, hz0, hz1, hz2⟩ := info_parts Ks.infoField
  rcases h2.2 with ⟨rfl, h0⟩ | ⟨g, cap, cur, rfl, _⟩
  · have hy : l2 = [] := List.eq_nil_of_length_eq_zero h0
    subst hy
    have hrun := run_append_owned_none (P := Tryd.prog) (w := w) B 22 ty 38 i0 2 Tryd.underlying22 hi v l.length _ hown
    exact ⟨v, w, hrun, by simpa using hown, ⟨rfl, rfl, rfl, Nat.le_refl _, fun _ _ _ => rfl⟩, .inl rfl⟩
  · obtain ⟨v', w', hr, a1, b1, _, d1⟩ := run_append_own_at (P := Tryd.prog) w B 22 ty 38 i0 (.agg #[.string ⟨#[]⟩, .string ⟨#[]⟩]) 2 32 Tryd.underlying22 hi hz0 hz1 hz2 rfl (by decide) v l.length _ hown ⟨g, 0, none⟩ l2.length cap (encFs l2) (Ks.encFs_len l2) (fun j u hj => h2.cells (g := g) rfl j u hj) (encFs_one l2) (by unfold maxLen; omega) (by omega) hbase
    refine ⟨v', w', hr, ?_, b1, d1⟩
    unfold OwnF
    rw [List.length_append, encFs_app]
    exact a1
/-- pairs appended behind a row of the call's own, guarded or not -/
theorem wpList_append_pairs {w : World} {ops : Array Oper} {rest : List Oper} {o : Oper} {a : Act} {Q : Exit → Act → World → Prop} (hgd : Region.wanted o (yielded ops a.tmps) = true) (s x : Operand)
    (ho : o.op = .call { callee := .builtin .append, args := #[s, x], argTypes := #[22, 22] })
    (B : Nat) (v : Value) (l : List Fd) (hs : a.eval s = v) (hown : OwnF w B v l) (B2 : Nat) (v2 : Value) (l2 : List Fd) (hx : a.eval x = v2) (h2 : OwnF w B2 v2 l2)
    (hlen : l.length + l2.length ≤ 1048576) (hbase : B ≤ w.heap.size)
    (h : ∀ v' w', OwnF w' B v' (l ++ l2) → w.grownBy w' v.ownBlock → (v'.ownBlock = v.ownBlock ∨ v'.ownBlock = some w.heap.size) → wpList Tryd.prog ops Q rest (a.put o.dst v') w') : wpList Tryd.prog ops Q (o :: rest) a w := by
  obtain ⟨v', w', hr, a1, b1, d1⟩ := run_append_pairs (w := w) o.type B v l hown B2 v2 l2 h2 hlen hbase
  refine wpList_step fun K hK => ?_
  rw [if_pos hgd]
  unfold Oper.wp execOp
  simp only [ho, resolve, invoke, builtin, Sem.run_bind, Sem.run_pure, Result.andThen_ok, List.map_toArray, List.map_cons, List.map_nil, hs, hx, hr]
  exact hK _ _ (h v' w' a1 b1 d1)
end Go.Proofs.YtnjnhgeafbofkaaDoor
