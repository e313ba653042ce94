import Derived.Test.YtnjnhgeafbofkaaDoorG7M
import Derived.Deep.CutRange
/-
  The walk of bastionlaw11.QueryPut: it answers true for every list of pairs and every two texts within the form's reach, and changes nothing that was there.
-/
namespace Go.Proofs.YtnjnhgeafbofkaaDoor
open Go.RowKit
theorem isN_self (nm va : ByteArray) : isN nm (nm, va) = true := by unfold isN; simp
theorem at_before (nm : ByteArray) (l : List Fd) : ∀ x ∈ l.take (atN nm l), isN nm x = false := by
  unfold atN
  cases h : l.findIdx? (isN nm) with
  | none =>
    intro x hx
    rw [List.findIdx?_eq_none_iff] at h
    simpa using h x (List.mem_of_mem_take hx)
  | some i =>
    obtain ⟨hi, _, h2⟩ := List.findIdx?_eq_some_iff_getElem.1 h
    intro x hx
    obtain ⟨j, hj, rfl⟩ := List.mem_take_iff_getElem.1 hx
    have : j < i := by simp at hj; omega
    simpa using h2 j this
theorem drop_put (nm va : ByteArray) (l : List Fd) : dropN nm (putL nm va l) = dropN nm l := by
  unfold putL dropN
  have e : l.filter (fun x => !isN nm x) = (l.take (atN nm l) ++ l.drop (atN nm l)).filter (fun x => !isN nm x) := by rw [List.take_append_drop]
  rw [e]
  simp only [List.filter_append, List.filter_filter, Bool.and_self]
  simp [isN_self]
theorem find_put (nm va : ByteArray) (l : List Fd) : findT nm (putL nm va l) = (va, true) := by
  unfold findT putL
  have h : (l.take (atN nm l)).find? (isN nm) = none := List.find?_eq_none.2 fun x hx => by rw [at_before nm l x hx]; simp
  simp [List.find?_append, h, isN_self]
theorem find_drop (nm : ByteArray) (l : List Fd) : findT nm (dropN nm l) = (⟨#[]⟩, false) := by
  unfold findT dropN
  have h : (l.filter fun x => !isN nm x).find? (isN nm) = none := List.find?_eq_none.2 fun x hx => by
    have := (List.mem_filter.1 hx).2
    simpa using this
  rw [h]
theorem count_put (nm va : ByteArray) (l : List Fd) : (putL nm va l).countP (isN nm) = 1 := by
  unfold putL
  have h1 : (l.take (atN nm l)).countP (isN nm) = 0 := List.countP_eq_zero.2 fun x hx => by rw [at_before nm l x hx]; simp
  have h2 : (dropN nm (l.drop (atN nm l))).countP (isN nm) = 0 := List.countP_eq_zero.2 fun x hx => by
    have := (List.mem_filter.1 hx).2
    simpa using this
  rw [List.countP_append, List.countP_append, h1, h2]
  simp [isN_self]
theorem len_drop (nm : ByteArray) : ∀ l : List Fd, (dropN nm l).length + l.countP (isN nm) = l.length
  | [] => rfl
  | x :: l => by
    have ih := len_drop nm l
    unfold dropN at ih ⊢
    rw [List.filter_cons, List.countP_cons]
    cases isN nm x <;> simp <;> omega
theorem put_fit {nm va : ByteArray} {l : List Fd} (hf : Fit ((nm, va) :: l)) : Fit (putL nm va l) := by
  unfold putL
  intro x hx
  rcases List.mem_append.1 hx with hx | hx
  · rcases List.mem_append.1 hx with hx | hx
    · exact hf x (List.mem_cons_of_mem _ (List.mem_of_mem_take hx))
    · rw [List.mem_singleton.1 hx]; exact hf _ (List.mem_cons_self ..)
  · exact hf x (List.mem_cons_of_mem _ (List.mem_of_mem_drop (List.mem_filter.1 hx).1))
theorem put_len (nm va : ByteArray) (l : List Fd) : (putL nm va l).length ≤ l.length + 1 := by
  have h1 := len_drop nm (putL nm va l)
  have h2 := len_drop nm l
  rw [count_put, drop_put] at h1
  omega
theorem own_none {w : World} {B : Nat} {q : Option Addr} {n cap : Nat} {l : List Fd} (h : OwnF w B (.slice q n cap) l) (hq : q = none) : cap = 0 := by
  subst hq
  rcases h.2 with ⟨e, _⟩ | ⟨g, cap', cur, e, _⟩
  · simp only [Value.slice.injEq] at e; exact e.2.2
  · simp only [Value.slice.injEq] at e; cases e.1
theorem count_snoc (nm : ByteArray) (L : List Fd) (k : Nat) (h : k < L.length) : (L.take (k + 1)).countP (isN nm) = (L.take k).countP (isN nm) + (if isN nm L[k] then 1 else 0) := by
  rw [List.take_succ_eq_append_getElem h, List.countP_append]
  simp [List.countP_cons]
set_option maxHeartbeats 4000000 in
set_option maxRecDepth 100000 in
theorem QueryPut_std (p : Option Addr) (l : List Fd) (cap : Nat) (hcap : l.length ≤ cap) (h32 : cap * 32 ≤ 140737488351232) (hn : p = none → cap = 0) (hfl : Fit l) (nm : ByteArray) (hnm : nm.size ≤ 140737488351232) (va : ByteArray) (hva : va.size ≤ 140737488351232) (w : World) (hv : Lst w (.slice p l.length cap) l) (hM : ML w) :
    Calls Tryd.prog 6 #[.slice p l.length cap, .string nm, .string va] w fun e w' => e = .returned (.bool true) ∧ Below w.heap.size w w' := by
  have hf : Fit ((nm, va) :: l) := fun x hx => by
    rcases List.mem_cons.1 hx with rfl | hx
    · exact ⟨by show nm.size ≤ _; omega, by show va.size ≤ _; omega⟩
    · exact hfl x hx
  have HM := Lib.hid hM
  have HV := Lib.hid hv
  obtain ⟨n, hln⟩ : ∃ n, l.length = n := ⟨_, rfl⟩
  obtain ⟨L, hL⟩ : ∃ L, putL nm va l = L := ⟨_, rfl⟩
  have HP := Lib.hid (fun W hW => put_is nm va p n cap l hln hn (by omega) (by omega) (by omega) hf W hW)
  have HLF := Lib.hid (hL ▸ put_fit hf)
  have HLN := Lib.hid (show L.length ≤ n + 1 from by rw [← hL, ← hln]; exact put_len nm va l)
  have HFP := Lib.hid (show findT nm L = (va, true) from hL ▸ find_put nm va l)
  have HC := Lib.hid (show L.countP (isN nm) = 1 from hL ▸ count_put nm va l)
  have HD := Lib.hid (show dropN nm L = dropN nm l from hL ▸ drop_put nm va l)
  have HDL := Lib.hid (show (dropN nm L).length + 1 = L.length from by have := len_drop nm L; rw [HC.out] at this; exact this)
  have HN := Lib.hid hn
  have HF := Lib.hid hfl
  rw [hln] at HV
  rw [hL] at HP
  have hc2 : n ≤ 4398046510976 := by omega
  have HLL := Lib.hid hln
  rw [hln]
  clear hf hv hM hL hn hfl hln
  go_enter Tryd.func6, Tryd.ntmps6
  go_wp2_with fail
  refine (lives_is _ HM.out).mono ?_
  rintro e w1 ⟨rfl, hb1⟩
  have HB1 := Lib.hid hb1
  clear hb1
  go_wp2_with fail
  refine (HP.out w1 (HV.out.below HB1.out)).mono ?_
  rintro e w2 ⟨⟨q2, c2, rfl, ho2⟩, hb2⟩
  have HB2 := Lib.hid (bel2 HB1.out hb2)
  have HO2 := Lib.hid ho2
  clear ho2 hb2
  have hL1 : L.length ≤ 4398046510977 := by have := HLN.out; omega
  go_wp2_with fail
  refine (find_is _ L nm va true HFP.out (by omega) (fun x hx => (HLF.out x hx).2) w2 (lst_own HO2.out)).mono ?_
  rintro e w3 ⟨rfl, hb3⟩
  have HB3 := Lib.hid (bel2 HB2.out hb3)
  have HO3 := Lib.hid (Ks.own_to HO2.out hb3)
  clear hb3
  go_wp2_with fail
  go_loopw [10, 30] (fun s10 s30 wr => ∃ (k : Nat), k ≤ L.length ∧ s30 = .int .i64 k ∧ s10 = .int .i64 ((L.take k).countP (isN nm)) ∧ Hid (Below w3.heap.size w3 wr)) (fun _ i _ => L.length - (intOf i).toNat)
  case atStart => exact ⟨0, by omega, rfl, rfl, Lib.hid (Below.refl _ _)⟩
  case round =>
    obtain ⟨k, hk, rfl, rfl, HB⟩ := hrel
    have HOr := Lib.hid (lst_own (Ks.own_to HO3.out HB.out))
    by_cases hlt : k < L.length
    · obtain ⟨p', cap', hpe, hcc⟩ := HOr.out
      simp only [Value.slice.injEq] at hpe
      obtain ⟨rfl, -, rfl⟩ := hpe
      obtain ⟨g, o, rfl, hg, hx, hy⟩ := hcc k L[k] (getF hlt)
      have i1 : (k : Int) < (L.length : Int) := by omega
      have HS := Lib.hid (count_snoc nm L k hlt)
      have HCL := Lib.hid (List.countP_le_length (p := isN nm) (l := L.take k))
      clear hcc
      generalize L[k] = f at *
      obtain ⟨a, b⟩ := f
      have hx2 : wr.cell? ⟨g, o + k * 2, none⟩ = some (.string a) := hx
      have hy2 : wr.cell? ⟨g, o + k * 2 + 1, none⟩ = some (.string b) := hy
      clear hx hy
      have HBn := Lib.hid (show Below w3.heap.size w3 (wr.alloc (.cells #[.string a, .string b] 38)) from HB.out.alloc HB.out.size _)
      by_cases he : a.toList == nm.toList
      · have HS1 := Lib.hid (show (L.take (k + 1)).countP (isN nm) = (L.take k).countP (isN nm) + 1 by
          rw [HS.out]; unfold isN at *; rw [if_pos he])
        have hcl : (L.take k).countP (isN nm) ≤ 4398046510977 := by have := HCL.out; rw [List.length_take] at this; omega
        go_wp2
        go_roundw
        case rel => exact ⟨k + 1, by omega, by go_num, by rw [HS1.out, Int.natCast_add]; rfl, HBn⟩
        case measure => simp [intOf]; omega
      · have HS1 := Lib.hid (show (L.take (k + 1)).countP (isN nm) = (L.take k).countP (isN nm) by
          rw [HS.out]; unfold isN at *; rw [if_neg he]; rfl)
        go_wp2
        go_roundw
        case rel => exact ⟨k + 1, by omega, by go_num, by rw [HS1.out], HBn⟩
        case measure => simp [intOf]; omega
    · have HK1 := Lib.hid (show (L.take k).countP (isN nm) = 1 by rw [List.take_of_length_le (by omega)]; exact HC.out)
      rw [HK1.out]
      have HBr := Lib.hid (HB3.out.trans (HB.out.mono HB3.out.size))
      have HOw := Lib.hid (Ks.own_to HO3.out HB.out)
      obtain ⟨M, hM⟩ : ∃ M, dropN nm L = M := ⟨_, rfl⟩
      have HDR := Lib.hid (drop_is nm q2 c2 L (fun h => own_none HO3.out h) (by omega) HLF.out wr HOr.out)
      rw [hM] at HDR
      have HM1 := Lib.hid (show M.length + 1 = L.length from hM ▸ HDL.out)
      have HMF := Lib.hid (show Fit M from hM ▸ HLF.out.drop)
      have HFD := Lib.hid (show findT nm M = (⟨#[]⟩, false) from hM ▸ find_drop nm L)
      have HMD := Lib.hid (show dropN nm l = M from hM ▸ HD.out.symm)
      clear hM
      have hm1 : M.length ≤ 4398046510977 := by have := HM1.out; omega
      go_wp2_with fail
      refine HDR.out.mono ?_
      rintro e w4 ⟨⟨q4, c4, rfl, ho4⟩, hb4⟩
      have HB4 := Lib.hid (bel2 HBr.out hb4)
      have HO4 := Lib.hid ho4
      clear ho4 hb4
      go_wp2_with fail
      refine (find_is _ M nm ⟨#[]⟩ false HFD.out (by omega) (fun x hx => (HMF.out x hx).2) w4 (lst_own HO4.out)).mono ?_
      rintro e w5 ⟨rfl, hb5⟩
      have HB5 := Lib.hid (bel2 HB4.out hb5)
      have HO5 := Lib.hid (Ks.own_to HO4.out hb5)
      clear hb5
      have HDL2 := Lib.hid (drop_is nm p cap l HN.out (by rw [HLL.out]; omega) HF.out w5 (by have := HV.out.below HB5.out; rw [← HLL.out] at this; exact this))
      rw [HMD.out] at HDL2
      rw [HLL.out] at HDL2
      go_wp2_with fail
      refine HDL2.out.mono ?_
      rintro e w6 ⟨⟨q6, c6, rfl, ho6⟩, hb6⟩
      have HB6 := Lib.hid (bel2 HB5.out hb6)
      have HO6 := Lib.hid ho6
      have HO5' := Lib.hid (Ks.own_to HO5.out hb6)
      clear ho6 hb6
      go_wp2_with fail
      refine (same_isP (.slice q4 M.length c4) (.slice q6 M.length c6) M M true (decide_eq_true rfl) (by omega) (by omega) w6 (lst_own HO5'.out) (lst_own HO6.out)).mono ?_
      rintro e w7 ⟨rfl, hb7⟩
      have HB7 := Lib.hid (bel2 HB6.out hb7)
      clear hb7
      have hfin : (M.length : Int) = (L.length : Int) - 1 := by have := HM1.out; omega
      go_wp2
      go_ret
      exact ⟨rfl, HB7.out⟩
end Go.Proofs.YtnjnhgeafbofkaaDoor
/-
  The contracts of the document's Find, Drop and Put (bastionref11): findT, dropN, putL.
-/
namespace Go.Proofs.YtnjnhgeafbofkaaDoor
open Go.RowKit
set_option maxHeartbeats 1000000 in
theorem rfind_is (v : Value) (l : List Fd) (nm : ByteArray) (T : ByteArray) (b : Bool) (hT : findT nm l = (T, b)) (hm : l.length ≤ 140737488355328) (w : World) (hv : Lst w v l) :
    Calls Tryd.prog 16 #[v, .string nm] w fun e w' => e = .returned (.tuple #[.string T, .bool b]) ∧ Below w.heap.size w w' := by
  obtain ⟨p, cap, rfl, hA⟩ := hv
  have HA := Lib.hid hA
  have HT := Lib.hid hT
  clear hA hT
  go_enter Tryd.func16, Tryd.ntmps16
  go_wp2_with fail
  go_loopw [10] (fun i wr => ∃ k : Nat, k ≤ l.length ∧ i = .int .i64 k ∧ Hid (∀ (j : Nat) (x : Fd), j < k → l[j]? = some x → isN nm x = false) ∧ Hid (Below w.heap.size w wr)) (fun i _ => l.length - (intOf i).toNat)
  case atStart => exact ⟨0, by omega, rfl, Lib.hid (by intro j x hj; omega), Lib.hid (Below.refl _ _)⟩
  case round =>
    obtain ⟨k, hk, rfl, HE, HB⟩ := hrel
    by_cases hlt : k < l.length
    · obtain ⟨g, o, rfl, hg, hx, hy⟩ := HA.out k l[k] (getF hlt)
      have hx2 := (HB.out.cell (p := ⟨g, o + k * 2, none⟩) hg).trans hx
      have hy2 := (HB.out.cell (p := ⟨g, o + k * 2 + 1, none⟩) hg).trans hy
      have i1 : (k : Int) < (l.length : Int) := by omega
      have HS := Lib.hid (show isN nm l[k] = true → findT nm l = (l[k].2, true) from fun e => by
        have hi := idx_some hlt HE.out e
        obtain ⟨i, hi2, h1, h2, _⟩ := idxI_some (p := isN nm) (l := l) (by rw [hi]; omega)
        rw [hi] at h1
        have : i = k := by omega
        subst this
        unfold findT; rw [h2])
      have HN := Lib.hid (show isN nm l[k] = false → ∀ (j : Nat) (x : Fd), j < k + 1 → l[j]? = some x → isN nm x = false from fun e j x hj hxx => by
        by_cases hjk : j = k
        · subst hjk; rw [getF hlt] at hxx; cases hxx; exact e
        · exact HE.out j x (by omega) hxx)
      clear hx hy
      generalize l[k] = f at *
      obtain ⟨a, c⟩ := f
      have hx3 : wr.cell? ⟨g, o + k * 2, none⟩ = some (.string a) := hx2
      have hy3 : wr.cell? ⟨g, o + k * 2 + 1, none⟩ = some (.string c) := hy2
      clear hx2 hy2
      have HBn := Lib.hid (show Below w.heap.size w (wr.alloc (.cells #[.string a, .string c] 38)) from HB.out.alloc HB.out.size _)
      by_cases he : a.toList == nm.toList
      · have hs := HS.out he
        rw [HT.out] at hs
        injection hs with h1 h2
        subst h1; subst h2
        go_wp2
        go_ret2
        exact ⟨rfl, HBn.out⟩
      · have he2 : (a.toList == nm.toList) = false := by simpa using he
        go_wp2
        go_roundw
        case rel => exact ⟨k + 1, by omega, by go_num, Lib.hid (HN.out he2), HBn⟩
        case measure => simp [intOf]; omega
    · have hf : findT nm l = (⟨#[]⟩, false) := by
        unfold findT
        rw [List.find?_eq_none.2 fun x hx => ?_]
        obtain ⟨j, hj, rfl⟩ := List.getElem_of_mem hx
        rw [HE.out j _ (by omega) (getF hj)]; simp
      rw [HT.out] at hf
      injection hf with h1 h2
      subst h1; subst h2
      go_wp2
      go_ret2
      exact ⟨rfl, HB.out⟩
theorem drop_snoc (nm : ByteArray) (l : List Fd) (k : Nat) (h : k < l.length) : dropN nm (l.take (k + 1)) = dropN nm (l.take k) ++ (if isN nm l[k] then [] else [l[k]]) := by
  unfold dropN
  rw [List.take_succ_eq_append_getElem h, List.filter_append]
  cases hx : isN nm l[k] <;> simp [hx]
theorem own_snoc1 {w : World} {B : Nat} {v : Value} {l : List Fd} {x : Fd} (h : w.ownsRow B 38 2 v (l.length + 1) (encFs l ++ encFs [x])) : OwnF w B v (l ++ [x]) := by
  unfold OwnF; rw [List.length_append, encFs_app]; exact h
set_option maxHeartbeats 2000000 in
set_option maxRecDepth 100000 in
theorem rdrop_is (v : Value) (l : List Fd) (nm : ByteArray) (hm : l.length * 32 ≤ 140737488355328) (w : World) (hv : Lst w v l) :
    Calls Tryd.prog 20 #[v, .string nm] w fun e w' => (∃ q c, e = .returned (.slice q (dropN nm l).length c) ∧ OwnF w' w.heap.size (.slice q (dropN nm l).length c) (dropN nm l)) ∧ Below w.heap.size w w' := by
  obtain ⟨i0, hi, hz0, hz1, hz2⟩ := info_parts Ks.infoField
  obtain ⟨p, cap, rfl, hA⟩ := hv
  have HA := Lib.hid hA
  clear hA
  go_enter Tryd.func20, Tryd.ntmps20
  go_wp2_with fail
  go_loopw [5, 10] (fun s5 i wr => ∃ k : Nat, k ≤ l.length ∧ i = .int .i64 k ∧ Hid (OwnF wr w.heap.size s5 (dropN nm (l.take k))) ∧ Hid (Below w.heap.size w wr)) (fun _ i _ => l.length - (intOf i).toNat)
  case atStart => exact ⟨0, by omega, rfl, Lib.hid (World.ownsRow_nil _ _ _ _), Lib.hid (Below.refl _ _)⟩
  case round =>
    obtain ⟨k, hk, rfl, HO, HB⟩ := hrel
    by_cases hlt : k < l.length
    · obtain ⟨g, o, rfl, hg, hx, hy⟩ := HA.out k l[k] (getF hlt)
      have hx2 := (HB.out.cell (p := ⟨g, o + k * 2, none⟩) hg).trans hx
      have hy2 := (HB.out.cell (p := ⟨g, o + k * 2 + 1, none⟩) hg).trans hy
      have i1 : (k : Int) < (l.length : Int) := by omega
      have HS := Lib.hid (drop_snoc nm l k hlt)
      have hdl : (dropN nm (l.take k)).length ≤ k := by
        have := List.length_filter_le (fun x => !isN nm x) (l.take k)
        rw [List.length_take_of_le (by omega)] at this
        exact this
      clear hx hy
      generalize dropN nm (l.take k) = D at *
      generalize l[k] = f at *
      obtain ⟨a, c⟩ := f
      have hx3 : wr.cell? ⟨g, o + k * 2, none⟩ = some (.string a) := hx2
      have hy3 : wr.cell? ⟨g, o + k * 2 + 1, none⟩ = some (.string c) := hy2
      clear hx2 hy2
      have hsz := HB.out.size
      have HBn := Lib.hid (show Below w.heap.size w (wr.alloc (.cells #[.string a, .string c] 38)) from HB.out.alloc HB.out.size _)
      have HOn := Lib.hid (show OwnF (wr.alloc (.cells #[.string a, .string c] 38)) w.heap.size u5 D from World.ownsRow.alloc HO.out _)
      by_cases he : a.toList == nm.toList
      · have HS1 := Lib.hid (show dropN nm (l.take (k + 1)) = D by rw [HS.out]; unfold isN; simp only; rw [if_pos he, List.append_nil])
        go_wp2
        go_roundw
        case rel => exact ⟨k + 1, by omega, by go_num, Lib.hid (by rw [HS1.out]; exact HOn.out), HBn⟩
        case measure => simp [intOf]; omega
      · have HS1 := Lib.hid (show dropN nm (l.take (k + 1)) = D ++ [(a, c)] by rw [HS.out]; unfold isN; simp only; rw [if_neg he])
        go_wp2_with (at_builtin; refine wpList_append_own _ rfl (.tmp 18) (.tmp 20) 22 rfl w.heap.size 38 i0 (.agg #[.string ⟨#[]⟩, .string ⟨#[]⟩]) 2 32 Tryd.underlying22 hi hz0 hz1 hz2 rfl (by decide) _ _ _ rfl (World.ownsRow.alloc HOn.out _) ⟨wr.heap.size + 1, 0, none⟩ 1 1 (encFs [(a, c)]) rfl rfl (fun j u hj => by rw [Addr.add_lit, show wr.heap.size + 1 = (wr.alloc (.cells #[.string a, .string c] 38)).heap.size by simp, cell_of_row _ _ _ _ _ _ (heap_alloc_new _ _), Nat.zero_add, List.getElem?_toArray]; exact hj) (encFs_one _) (by unfold maxLen; omega) (by omega) (by simp; omega) ?_; intro v' w4 hown' hgrow _; have HO4 := Lib.hid (own_snoc1 hown'); have HB4 := Lib.hid (show Below w.heap.size w w4 from (HBn.out.alloc (by simp; omega) _).grown hgrow (by simp; omega) (fun k hk => (HO.out.lt k hk).1)); clear hown' hgrow)
        go_roundw
        case rel => exact ⟨k + 1, by omega, by go_num, Lib.hid (by rw [HS1.out]; exact HO4.out), HB4⟩
        case measure => simp [intOf]; omega
    · have HF := Lib.hid (show dropN nm (l.take k) = dropN nm l by rw [List.take_of_length_le (by omega)])
      rw [HF.out] at HO
      obtain ⟨q4, c4, rfl⟩ := Ks.own_slice HO.out
      go_wp2
      go_ret
      exact ⟨⟨_, _, rfl, HO.out⟩, HB.out⟩
end Go.Proofs.YtnjnhgeafbofkaaDoor
