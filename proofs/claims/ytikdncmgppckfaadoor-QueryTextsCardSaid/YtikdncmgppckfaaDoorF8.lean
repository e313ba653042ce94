import Derived.Test.YtikdncmgppckfaaDoorF7
/-
  The contract of bastionlaw11.lives: it answers true; nothing that was there is changed. Conditions: bytealg's MaxLen has been set.
-/
namespace Go.Proofs.YtikdncmgppckfaaDoor
open Go.RowKit
abbrev encFs (l : List Fd) : List Value := Ks.encFs l
abbrev paL (l : List UInt8) : List Fd := Ks.paL l
abbrev PaRet (w : World) (l : List Fd) (e : Ending) (w' : World) : Prop := Ks.PaRet w l e w'
theorem encFs_at : ∀ (l : List Fd) (rest : List Value) (i : Nat) (x : Fd), l[i]? = some x → (encFs l ++ rest)[i * 2]? = some (.string x.1) ∧ (encFs l ++ rest)[i * 2 + 1]? = some (.string x.2)
  | [], _, i, _, h => by simp at h
  | y :: l, rest, 0, x, h => by
    simp at h; subst h
    exact ⟨rfl, rfl⟩
  | y :: l, rest, i + 1, x, h => by
    have h2 := encFs_at l rest i x (by simpa using h)
    have e : encFs (y :: l) ++ rest = .string y.1 :: .string y.2 :: (encFs l ++ rest) := rfl
    rw [e, show (i + 1) * 2 = i * 2 + 1 + 1 by omega]
    exact h2
theorem lst_row {w : World} {g t : Nat} {l : List Fd} {rest : List Value} (h : w.heap[g]? = some (.cells (encFs l ++ rest).toArray t (0, 0))) (cap : Nat) : Lst w (.slice (some ⟨g, 0, none⟩) l.length cap) l := by
  refine ⟨_, cap, rfl, fun i x hi => ⟨g, 0, rfl, lt_of_block h, ?_, ?_⟩⟩
  · rw [Nat.zero_add, cell_of_row _ _ _ _ _ _ h, List.getElem?_toArray]; exact (encFs_at l rest i x hi).1
  · rw [Nat.zero_add, cell_of_row _ _ _ _ _ _ h, List.getElem?_toArray]; exact (encFs_at l rest i x hi).2
theorem lst_new (w : World) (l : List Fd) (cs : Array Value) (h : (encFs l).toArray = cs) (t : TypeId) (n : Nat) (hn : l.length = n) (cap : Nat) : Lst (w.alloc (.cells cs t)) (.slice (some ⟨w.heap.size, 0, none⟩) n cap) l := by
  subst hn; subst h
  exact lst_row (rest := []) (by rw [List.append_nil]; exact heap_alloc_new w _) cap
theorem lst_own {w : World} {B : Nat} {v : Value} {l : List Fd} (h : w.ownsRow B 38 2 v l.length (encFs l)) : Lst w v l := by
  rcases h.2 with ⟨rfl, h0⟩ | ⟨g, cap, cur, rfl, _, hg, _, _, hcs, ht⟩
  · have : l = [] := List.eq_nil_of_length_eq_zero h0
    subst this
    exact ⟨none, 0, rfl, fun i x hi => by simp at hi⟩
  · refine lst_row (t := 38) (rest := cur.toList.drop (l.length * 2)) ?_ cap
    have e : (encFs l ++ cur.toList.drop (l.length * 2)).toArray = cur := by
      rw [← ht, List.take_append_drop]
    rw [e]; exact hg
def liveL : List Fd := [(⟨#[97, 32, 98]⟩, ⟨#[195, 169, 38]⟩), (⟨#[99]⟩, ⟨#[]⟩)]
def liveK : List Fd := [(⟨#[97, 32, 98]⟩, ⟨#[]⟩), (⟨#[]⟩, ⟨#[99]⟩), (⟨#[37, 122, 122]⟩, ⟨#[49]⟩)]
theorem live_pr : (if 256 < liveL.length then (([] : List UInt8), (3 : Int)) else if liveL.any longF then ([], 4) else (prL liveL, 0)) = ([97, 43, 98, 61, 37, 67, 51, 37, 65, 57, 37, 50, 54, 38, 99, 61], 0) := by decide +kernel
theorem live_pa : (paL [97, 43, 98, 38, 61, 99, 38, 38, 37, 122, 122, 61, 49]) = liveK := by
  have : (Ks.paL [97, 43, 98, 38, 61, 99, 38, 38, 37, 122, 122, 61, 49]).map (fun x => (x.1.data.toList, x.2.data.toList)) = liveK.map (fun x => (x.1.data.toList, x.2.data.toList)) := by decide +kernel
  have inj : ∀ (a b : List Fd), a.map (fun x => (x.1.data.toList, x.2.data.toList)) = b.map (fun x => (x.1.data.toList, x.2.data.toList)) → a = b := by
    intro a
    induction a with
    | nil => intro b h; cases b with
      | nil => rfl
      | cons _ _ => simp at h
    | cons x a ih => intro b h; cases b with
      | nil => simp at h
      | cons y b =>
        simp only [List.map_cons, List.cons.injEq, Prod.mk.injEq] at h
        obtain ⟨⟨h1, h2⟩, h3⟩ := h
        rw [ih b h3]
        have e1 : x.1 = y.1 := ByteArray.ext (Array.ext' h1)
        have e2 : x.2 = y.2 := ByteArray.ext (Array.ext' h2)
        rw [show x = y from Prod.ext e1 e2]
  exact inj _ _ this
theorem same_isP (va vb : Value) (la lb : List Fd) (b : Bool) (hb : decide (la = lb) = b) (hm : la.length ≤ 140737488355328) (hm2 : lb.length ≤ 140737488355328) (w : World) (h1 : Lst w va la) (h2 : Lst w vb lb) :
    Calls Tryd.prog 14 #[va, vb] w fun e w' => e = .returned (.bool b) ∧ Below w.heap.size w w' := by
  rw [← hb]; exact same_pairs va vb la lb hm hm2 w h1 h2
set_option maxHeartbeats 2000000 in
set_option maxRecDepth 100000 in
theorem lives_is (w : World) (hM : ML w) : Calls Tryd.prog 13 #[] w fun e w' => e = .returned (.bool true) ∧ Below w.heap.size w w' := by
  have HM := Lib.hid hM
  have h1 : Lst (w.alloc (.cells #[.string ⟨#[97, 32, 98]⟩, .string ⟨#[195, 169, 38]⟩, .string ⟨#[99]⟩, .string ⟨#[]⟩] 38)) (.slice (some ⟨w.heap.size, 0, none⟩) 2 2) liveL := lst_new w liveL _ rfl 38 2 rfl 2
  have HP := Lib.hid (print_any _ liveL (by decide) _ (hM.to (bnew w _)) h1 _ _ live_pr)
  clear h1 hM
  go_enter Tryd.func13, Tryd.ntmps13
  go_wp2_with fail
  refine HP.out.mono ?_
  rintro e w1 ⟨rfl, hb1⟩
  have HB1 := Lib.hid (((Below.refl _ w).alloc (Nat.le_refl _) (.cells #[.string ⟨#[97, 32, 98]⟩, .string ⟨#[195, 169, 38]⟩, .string ⟨#[99]⟩, .string ⟨#[]⟩] 38)).trans (hb1.mono (by simp)))
  have HM1 := Lib.hid (HM.out.to HB1.out)
  have HPA := Lib.hid (Ks.parse_is ⟨#[97, 43, 98, 38, 61, 99, 38, 38, 37, 122, 122, 61, 49]⟩ (by decide) w1 HM1.out)
  clear hb1
  go_wp2_with fail
  refine HPA.out.mono ?_
  rintro e w2 ⟨h2, hb2⟩
  have live_pa' : Ks.paL (⟨#[97, 43, 98, 38, 61, 99, 38, 38, 37, 122, 122, 61, 49]⟩ : ByteArray).data.toList = liveK := live_pa
  rw [live_pa', if_neg (by decide)] at h2
  obtain ⟨v, rfl, hown⟩ := h2
  have HL := Lib.hid (lst_own hown)
  have HB2 := Lib.hid (bel2 HB1.out hb2)
  clear hown hb2 live_pa'
  obtain ⟨p, cc, hv, _⟩ := HL.out
  subst hv
  have HS := Lib.hid (same_isP (.slice p liveK.length cc) (.slice (some ⟨w2.heap.size, 0, none⟩) 3 3) liveK liveK true (decide_eq_true rfl) (by decide) (by decide) (w2.alloc (.cells #[.string ⟨#[97, 32, 98]⟩, .string ⟨#[]⟩, .string ⟨#[]⟩, .string ⟨#[99]⟩, .string ⟨#[37, 122, 122]⟩, .string ⟨#[49]⟩] 38)) (HL.out.below (bnew _ _)) (lst_new w2 liveK _ rfl 38 3 rfl 3))
  go_wp2_with fail
  refine HS.out.mono ?_
  rintro e w3 ⟨rfl, hb3⟩
  have HB3 := Lib.hid ((HB2.out.alloc HB2.out.size (.cells #[.string ⟨#[97, 32, 98]⟩, .string ⟨#[]⟩, .string ⟨#[]⟩, .string ⟨#[99]⟩, .string ⟨#[37, 122, 122]⟩, .string ⟨#[49]⟩] 38)).trans (hb3.mono (by have := HB2.out.size; simp; omega)))
  clear hb3
  go_wp2
  go_ret
  exact ⟨rfl, HB3.out⟩
end Go.Proofs.YtikdncmgppckfaaDoor
