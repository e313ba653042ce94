/-
  The contract of query's Put (putL).
-/
import Derived.Test.YtnjnhgeafbofkaaDoorG6M
import Derived.ArgAppend
import Derived.Test.YtnjnhgeafbofkaaDoorRegInM
namespace Go.Proofs.YtnjnhgeafbofkaaDoor
open Go.RowKit
set_option maxRecDepth 100000 in
set_option maxHeartbeats 8000000 in
theorem put_is (nm va : ByteArray) (q : Option Addr) (n cap : Nat) (l : List Fd) (hln : l.length = n) (hn : q = none → cap = 0) (hlc : n ≤ cap) (h32 : n * 32 ≤ 140737488351232) (hcx : cap ≤ 9223372036854775807) (hf : Fit ((nm, va) :: l)) (w : World) (hv : Lst w (.slice q n cap) l) :
    Calls Tryd.prog 17 #[.slice q n cap, .string nm, .string va] w fun e w' => (∃ q' cap', e = .returned (.slice q' (putL nm va l).length cap') ∧ OwnF w' w.heap.size (.slice q' (putL nm va l).length cap') (putL nm va l)) ∧ Below w.heap.size w w' := by
  obtain ⟨r, hr⟩ : ∃ r, idxI (isN nm) l = r := ⟨_, rfl⟩
  obtain ⟨k, hk⟩ : ∃ k, atN nm l = k := ⟨_, rfl⟩
  have hkl : k ≤ n := by rw [← hk, ← hln]; exact at_le nm l
  have hrk : (k < n ∧ r = (k : Int)) ∨ (k = n ∧ r = -1) := by
    have := at_idx nm l
    rw [hk, hr, hln] at this
    rw [this]
    rcases Nat.lt_or_ge k n with h | h
    · exact .inl ⟨h, if_pos h⟩
    · exact .inr ⟨by omega, if_neg (by omega)⟩
  have HB0 := Lib.hid (bnew w (.cells #[.string nm] 9))
  have HI := Lib.hid (indexNamed nm w.heap.size (.slice q n cap) l r hr (by omega) (w.alloc (.cells #[.string nm] 9)) (hv.below HB0.out) (Boxed.new w 9 _))
  have HM := Lib.hid (fun W => mk_named nm W)
  have HV := Lib.hid hv
  have HF := Lib.hid hf
  have HK := Lib.hid hk
  have HN := Lib.hid hn
  have HI0 := Lib.hid Ks.infoField
  have hc63 : cap ≤ 9223372036854775807 := by omega
  clear hr hk hv hf hn
  rcases hrk with ⟨hlt, rfl⟩ | ⟨hlt, rfl⟩
  · skip
    obtain ⟨i0, hi, hz0, hz1, hz2⟩ := info_parts HI0.out
    go_enter Tryd.func17, Tryd.ntmps17
    go_wp2_with (first
      | (go_at_call 34; refine (HM.out _).mono ?_; rintro e w1 ⟨rfl, rfl⟩)
      | (go_at_call 33; refine HI.out.mono ?_; rintro e w2 ⟨rfl, hb2⟩; have HB2 := Lib.hid (HB0.out.trans (hb2.mono (by simp))); clear hb2)
      | (at_builtin; refine wpList_append_grows _ rfl (.tmp 20) (.tmp 24) 22 rfl 38 i0 (.agg #[.string ⟨#[]⟩, .string ⟨#[]⟩]) 2 32 Tryd.underlying22 hi hz0 hz1 hz2 rfl (by decide) q k k (encFs (l.take k)) rfl ?hnone ?hlo ?holds ⟨w2.heap.size, 0, none⟩ 1 1 [.string nm, .string va] rfl rfl ?hc ?h1c (by omega) (by unfold maxLen; omega) (by omega) ?hK))
    case hnone => exact fun h => by have := HN.out h; omega
    case hlo => rw [Ks.encFs_len, List.length_take_of_le (by omega)]
    case holds => exact fun b hb => Lst.pre ((HV.out.below HB2.out).below (bnew _ _)) k b hb
    case hc => exact fun j u hj => by rw [Addr.add_lit, cell_of_row _ _ _ _ _ _ (heap_alloc_new w2 _), Nat.zero_add, List.getElem?_toArray]; exact hj
    case h1c => exact encFs_one [(nm, va)]
    case hK =>
      intro v4 w4 own4 grow4
      have hs2 := HB2.out.size
      have HB4 := Lib.hid (show Below w.heap.size w w4 from ((HB2.out.trans ((bnew w2 _).mono HB2.out.size)).grown grow4 (by simp; omega) (fun k hk => by cases hk)))
      have HO4 := Lib.hid (show OwnF w4 w.heap.size v4 (l.take k ++ [(nm, va)]) from by
        refine ⟨Ks.encFs_len _, ?_⟩
        rw [encFs_app, List.length_append, List.length_take_of_le (by omega)]
        have o2 := own4.2
        refine o2.imp id (fun ⟨g, cap, cur, h1, h2, h3⟩ => ⟨g, cap, cur, h1, Nat.le_trans (by omega) h2, h3⟩))
      clear own4 grow4
      have hs4 := HB4.out.size
      go_wp2_with fail
      have HR := Lib.hid (show n - k = (l.drop k).length by rw [List.length_drop, hln])
      have HLD := Lib.hid (show k < n → ∀ (W : World) (c : Nat), Below w.heap.size w W → Lst W (.slice (Option.map (fun x => x.add (k * 2)) q) (n - k) c) (l.drop k) from fun h W c hb => by have := Lst.drop (HV.out.below hb) k c (by omega); rw [hln] at this; exact this)
      have HRT : n - k + k = n := by omega
      have HFT := Lib.hid (show Fit (l.take k ++ [(nm, va)] ++ dropN nm (l.drop k)) from by
        have hf := HF.out
        intro x hx
        rcases List.mem_append.1 hx with hx | hx
        · rcases List.mem_append.1 hx with hx | hx
          · exact hf x (List.mem_cons_of_mem _ (List.mem_of_mem_take hx))
          · rw [List.mem_singleton.1 hx]; exact hf _ (List.mem_cons_self ..)
        · exact hf x (List.mem_cons_of_mem _ (List.mem_of_mem_drop (List.mem_filter.1 hx).1)))
      have HPUT := Lib.hid (show l.take k ++ [(nm, va)] ++ dropN nm (l.drop k) = putL nm va l from by unfold putL; rw [HK.out])
      generalize l.drop k = rest at HR HLD HFT HPUT
      refine (wpIn_wide (n := 0)).1 ?_
      refine wpIn_region_tail (by kernel_rfl) 7 (by decide) (fun i => 26 + i) (VQ v4 q n cap k nm rest w4.heap.size) (fun w' => Below w4.heap.size w4 w') ?hlt ?hinj (by kernel_rfl) (by kernel_rfl) (VQ_mono _ _ _ _ _ _ _ _) (fun _ _ h h' => h.trans (h'.mono h.size)) ?h0 ?hop ?htail
      case hlt => intro i hi; simp only [List.size_toArray, List.length_cons, List.length_nil]; omega
      case hinj => intro i j _ _ h; simpa using h
      case h0 => exact Below.drew (Below.refl _ _)
      case hop =>
        intro i o hi ho a w' hF hg hd
        have hcase : i = 0 ∨ i = 1 ∨ i = 2 ∨ i = 3 ∨ i = 4 ∨ i = 5 ∨ i = 6 := by omega
        have h8 : a.eval (.tmp 8) = v4 := (hF.2.2 8 (fun i _ => by show 26 + i ≠ 8; omega)).trans rfl
        have h0 : a.eval (.tmp 0) = .slice q n cap := (hF.2.2 0 (fun i _ => by show 26 + i ≠ 0; omega)).trans rfl
        have h7 : a.eval (.tmp 7) = .int .i64 k := (hF.2.2 7 (fun i _ => by show 26 + i ≠ 7; omega)).trans rfl
        have h1 : a.eval (.tmp 1) = .string nm := (hF.2.2 1 (fun i _ => by show 26 + i ≠ 1; omega)).trans rfl
        have HG := Lib.hid hg
        have HD0 := Lib.hid hd
        clear hd hF hg
        rcases hcase with rfl | rfl | rfl | rfl | rfl | rfl | rfl
        all_goals
          simp only [List.getElem?_toArray, List.getElem?_cons_zero, List.getElem?_cons_succ, Option.some.injEq] at ho
          subst ho
          have hd := HD0.out
          simp [Region.binds, VQ] at hd
          refine ⟨rfl, ?_⟩
          unfold Oper.wpIn
          refine ⟨fun _ _ => trivial, ?_⟩
          rw [Oper.semAt_plain Fence.wide _ _ (by intro c hc'; cases hc')]
        · simp [execOp, h8, Oper.uponIn]
          exact ⟨_, rfl, rfl, Below.refl _ _⟩
        · simp [execOp, h0, Oper.uponIn]
          exact ⟨_, rfl, rfl, Below.refl _ _⟩
        · simp [execOp, h7, Oper.uponIn]
          exact ⟨_, rfl, rfl, Below.refl _ _⟩
        · obtain ⟨d1, d2⟩ := hd
          simp [execOp, d1, d2]
          simp [go_sem, Oper.uponIn]
          try rw [if_pos (show k ≤ n by omega)]
          refine ⟨_, rfl, ?_, Below.refl _ _⟩
          show ∃ q' c', _ = _ ∧ _
          refine ⟨if cap = k then q else Option.map (fun x => x.add (k * 2)) q, cap - k, by first | rw [HR.out] | (rw [← HR.out]; simp), ?_, ?_⟩
          · intro h
            split at h
            · omega
            · simp at h; have := HN.out h; omega
          · by_cases hlt2 : k < n
            · rw [if_neg (by omega)]
              have := HLD.out hlt2 w' (cap - k) (HB4.out.trans (HG.out.mono HB4.out.size))
              rw [HR.out] at this
              exact this
            · exact lst_empty _ _ _ _ _ (List.eq_nil_of_length_eq_zero (by rw [← HR.out]; omega)) (by rw [← HR.out]; omega)
        · simp [execOp, h1, Oper.uponIn]
          exact ⟨_, rfl, rfl, Below.refl _ _⟩
        · simp [execOp, resolve, invoke, hd]
          simp [go_sem, Oper.uponIn]
          refine ⟨rfl, (callsIn_wide.2 (HM.out w')).mono ?_⟩
          rintro e w5 ⟨rfl, rfl⟩
          exact ⟨_, rfl, ⟨_, rfl, Boxed.new _ 9 _⟩, bnew _ _⟩
        · obtain ⟨⟨q', c', d1, d2, d3⟩, b, d4, d5⟩ := hd
          simp [execOp, resolve, invoke, d1, d4]
          simp [go_sem, Oper.uponIn]
          refine ⟨rfl, (callsIn_wide.2 (without_is nm b q' c' rest d2 (by rw [← HR.out]; omega) w' d3 d5)).mono ?_⟩
          rintro e w5 ⟨⟨q5, c5, rfl, ho5⟩, hb5⟩
          exact ⟨_, rfl, ⟨q5, c5, rfl, ⟨ho5.1, ho5.2.imp id (fun ⟨g, cap, cur, h1, h2, h3⟩ => ⟨g, cap, cur, h1, Nat.le_trans HG.out.size h2, h3⟩)⟩⟩, hb5⟩
      case htail =>
        intro a w' hF hg hv
        have h26 : a.eval (.tmp 26) = v4 := hv 0 (by omega)
        obtain ⟨q6, c6, h32, ho6⟩ : ∃ q' c', a.eval (.tmp 32) = .slice q' (dropN nm rest).length c' ∧ OwnF w' w4.heap.size (.slice q' (dropN nm rest).length c') (dropN nm rest) := hv 6 (by omega)
        have hlt1 : (l.take k ++ [(nm, va)]).length = k + 1 := by rw [List.length_append, List.length_take_of_le (by omega)]; rfl
        have hdl : (dropN nm rest).length ≤ rest.length := List.length_filter_le _ _
        have hrl := HR.out
        have hB' := HB4.out.trans (hg.mono HB4.out.size)
        obtain ⟨v7, w7, hrun, ho7, hgr7, _⟩ := run_append_pairs2 (w := w') 22 w.heap.size v4 _ (Ks.own_to HO4.out hg) w4.heap.size _ _ ho6 (by omega) hB'.size
        have HB7 := Lib.hid (show Below w.heap.size w w7 from hB'.grown hgr7 hB'.size (fun k hk => ((Ks.own_to HO4.out hg).lt k hk).1))
        refine Ks.opsIn_cons (o := _) rfl rfl ?_
        unfold Oper.wpIn
        refine ⟨fun _ _ => trivial, ?_⟩
        rw [Oper.semAt_plain Fence.wide _ _ (by intro c hc'; cases hc')]
        simp [execOp, resolve, invoke, builtin, h26, h32, hrun, Oper.uponIn]
        have hl7 : (putL nm va l).length ≤ 4398046511104 := by rw [← HPUT.out, List.length_append]; omega
        rw [HPUT.out] at ho7
        obtain ⟨q7, c7, rfl⟩ := Ks.own_slice ho7
        have hfp := HFT.out
        rw [HPUT.out] at hfp
        have HFR := Lib.hid (fresh_is w.heap.size q7 c7 (putL nm va l) hfp (by omega) w7 ho7 HB7.out.size)
        refine Ks.opsIn_cons (o := _) rfl rfl ?_
        unfold Oper.wpIn
        refine ⟨fun _ _ => trivial, ?_⟩
        rw [Oper.semAt_plain Fence.wide _ _ (by intro c hc'; cases hc')]
        have h33 : (a.put (some 33) (.slice q7 (putL nm va l).length c7)).eval (.tmp 33) = .slice q7 (putL nm va l).length c7 := Act.eval_put_same _ _ _ (by rw [hF.1]; simp)
        simp [execOp, resolve, invoke, h33]
        simp [go_sem, Oper.uponIn]
        refine ⟨rfl, (callsIn_wide.2 HFR.out).mono ?_⟩
        rintro e w8 ⟨⟨rfl, ho8⟩, hb8⟩
        have HO8 := Lib.hid ho8
        have HB8 := Lib.hid (HB7.out.trans hb8)
        clear ho8 hb8 ho7 hgr7 hrun
        refine Ks.opsIn_cons (o := _) rfl rfl ?_
        unfold Oper.wpIn
        refine ⟨fun _ _ => trivial, ?_⟩
        rw [Oper.semAt_plain Fence.wide _ _ (by intro c hc'; cases hc')]
        have hsz : a.tmps.size = 35 := hF.1
        have h34 : ((a.put (some 33) (.slice q7 (putL nm va l).length c7)).put (some 34) (.slice q7 (putL nm va l).length c7)).eval (.tmp 34) = .slice q7 (putL nm va l).length c7 := Act.eval_put_same _ _ _ (by simp [Act.put, hsz])
        simp [execOp]
        simp [go_sem, Oper.uponIn]
        rw [if_pos (show 34 < a.tmps.size by omega)]
        have hts : ((a.tmps.setIfInBounds 33 (.slice q7 (putL nm va l).length c7)).setIfInBounds 34 (.slice q7 (putL nm va l).length c7)).size = 35 := by simp [hsz]
        generalize (a.tmps.setIfInBounds 33 (.slice q7 (putL nm va l).length c7)).setIfInBounds 34 (.slice q7 (putL nm va l).length c7) = T at hts
        rw [show a.defers = [] from hF.2.1]
        clear HFR hfp h33 h34 h26 h32 hv hg hF ho6 hsz HFT HPUT HR HLD HI HM HV HF HK HN HI0 hi hz0 hz1 hz2 HO4
        refine ‹∀ (a : Act) (w : World), Code.wp Tryd.prog Code.ret _ a w → _› _ _ ?_
        have hT6 : (Act.mk (T.setIfInBounds 6 (.slice q7 (putL nm va l).length c7)) []).eval (.tmp 6) = .slice q7 (putL nm va l).length c7 := Act.eval_put_same ⟨T, []⟩ 6 _ (by show 6 < T.size; omega)
        go_wp2
        go_ret
        exact ⟨⟨q7, c7, congrArg Ending.returned hT6, HO8.out⟩, HB8.out⟩
  · subst hlt
    obtain ⟨i0, hi, hz0, hz1, hz2⟩ := info_parts HI0.out
    go_enter Tryd.func17, Tryd.ntmps17
    go_wp2_with (first
      | (go_at_call 34; refine (HM.out _).mono ?_; rintro e w1 ⟨rfl, rfl⟩)
      | (go_at_call 33; refine HI.out.mono ?_; rintro e w2 ⟨rfl, hb2⟩; have HB2 := Lib.hid (HB0.out.trans (hb2.mono (by simp))); clear hb2)
      | (at_builtin; refine wpList_append_grows _ rfl (.tmp 20) (.tmp 24) 22 rfl 38 i0 (.agg #[.string ⟨#[]⟩, .string ⟨#[]⟩]) 2 32 Tryd.underlying22 hi hz0 hz1 hz2 rfl (by decide) q k k (encFs (l.take k)) rfl ?hnone ?hlo ?holds ⟨w2.heap.size, 0, none⟩ 1 1 [.string nm, .string va] rfl rfl ?hc ?h1c (by omega) (by unfold maxLen; omega) (by omega) ?hK))
    case hnone => exact fun h => by have := HN.out h; omega
    case hlo => rw [Ks.encFs_len, List.length_take_of_le (by omega)]
    case holds => exact fun b hb => Lst.pre ((HV.out.below HB2.out).below (bnew _ _)) k b hb
    case hc => exact fun j u hj => by rw [Addr.add_lit, cell_of_row _ _ _ _ _ _ (heap_alloc_new w2 _), Nat.zero_add, List.getElem?_toArray]; exact hj
    case h1c => exact encFs_one [(nm, va)]
    case hK =>
      intro v4 w4 own4 grow4
      have hs2 := HB2.out.size
      have HB4 := Lib.hid (show Below w.heap.size w w4 from ((HB2.out.trans ((bnew w2 _).mono HB2.out.size)).grown grow4 (by simp; omega) (fun k hk => by cases hk)))
      have HO4 := Lib.hid (show OwnF w4 w.heap.size v4 (l.take k ++ [(nm, va)]) from by
        refine ⟨Ks.encFs_len _, ?_⟩
        rw [encFs_app, List.length_append, List.length_take_of_le (by omega)]
        have o2 := own4.2
        refine o2.imp id (fun ⟨g, cap, cur, h1, h2, h3⟩ => ⟨g, cap, cur, h1, Nat.le_trans (by omega) h2, h3⟩))
      clear own4 grow4
      have hs4 := HB4.out.size
      go_wp2_with fail
      have HR := Lib.hid (show k - k = (l.drop k).length by rw [List.length_drop, hln])
      have HLD := Lib.hid (show k < k → ∀ (W : World) (c : Nat), Below w.heap.size w W → Lst W (.slice (Option.map (fun x => x.add (k * 2)) q) (k - k) c) (l.drop k) from fun h W c hb => by have := Lst.drop (HV.out.below hb) k c (by omega); rw [hln] at this; exact this)
      have HRT : k - k + k = k := by omega
      have HFT := Lib.hid (show Fit (l.take k ++ [(nm, va)] ++ dropN nm (l.drop k)) from by
        have hf := HF.out
        intro x hx
        rcases List.mem_append.1 hx with hx | hx
        · rcases List.mem_append.1 hx with hx | hx
          · exact hf x (List.mem_cons_of_mem _ (List.mem_of_mem_take hx))
          · rw [List.mem_singleton.1 hx]; exact hf _ (List.mem_cons_self ..)
        · exact hf x (List.mem_cons_of_mem _ (List.mem_of_mem_drop (List.mem_filter.1 hx).1)))
      have HPUT := Lib.hid (show l.take k ++ [(nm, va)] ++ dropN nm (l.drop k) = putL nm va l from by unfold putL; rw [HK.out])
      generalize l.drop k = rest at HR HLD HFT HPUT
      refine (wpIn_wide (n := 0)).1 ?_
      refine wpIn_region_tail (by kernel_rfl) 7 (by decide) (fun i => 26 + i) (VQ v4 q k cap k nm rest w4.heap.size) (fun w' => Below w4.heap.size w4 w') ?hlt ?hinj (by kernel_rfl) (by kernel_rfl) (VQ_mono _ _ _ _ _ _ _ _) (fun _ _ h h' => h.trans (h'.mono h.size)) ?h0 ?hop ?htail
      case hlt => intro i hi; simp only [List.size_toArray, List.length_cons, List.length_nil]; omega
      case hinj => intro i j _ _ h; simpa using h
      case h0 => exact Below.drew (Below.refl _ _)
      case hop =>
        intro i o hi ho a w' hF hg hd
        have hcase : i = 0 ∨ i = 1 ∨ i = 2 ∨ i = 3 ∨ i = 4 ∨ i = 5 ∨ i = 6 := by omega
        have h8 : a.eval (.tmp 8) = v4 := (hF.2.2 8 (fun i _ => by show 26 + i ≠ 8; omega)).trans rfl
        have h0 : a.eval (.tmp 0) = .slice q k cap := (hF.2.2 0 (fun i _ => by show 26 + i ≠ 0; omega)).trans rfl
        have h7 : a.eval (.tmp 7) = .int .i64 k := (hF.2.2 7 (fun i _ => by show 26 + i ≠ 7; omega)).trans rfl
        have h1 : a.eval (.tmp 1) = .string nm := (hF.2.2 1 (fun i _ => by show 26 + i ≠ 1; omega)).trans rfl
        have HG := Lib.hid hg
        have HD0 := Lib.hid hd
        clear hd hF hg
        rcases hcase with rfl | rfl | rfl | rfl | rfl | rfl | rfl
        all_goals
          simp only [List.getElem?_toArray, List.getElem?_cons_zero, List.getElem?_cons_succ, Option.some.injEq] at ho
          subst ho
          have hd := HD0.out
          simp [Region.binds, VQ] at hd
          refine ⟨rfl, ?_⟩
          unfold Oper.wpIn
          refine ⟨fun _ _ => trivial, ?_⟩
          rw [Oper.semAt_plain Fence.wide _ _ (by intro c hc'; cases hc')]
        · simp [execOp, h8, Oper.uponIn]
          exact ⟨_, rfl, rfl, Below.refl _ _⟩
        · simp [execOp, h0, Oper.uponIn]
          exact ⟨_, rfl, rfl, Below.refl _ _⟩
        · simp [execOp, h7, Oper.uponIn]
          exact ⟨_, rfl, rfl, Below.refl _ _⟩
        · obtain ⟨d1, d2⟩ := hd
          simp [execOp, d1, d2]
          simp [go_sem, Oper.uponIn]
          try rw [if_pos (show k ≤ k by omega)]
          refine ⟨_, rfl, ?_, Below.refl _ _⟩
          show ∃ q' c', _ = _ ∧ _
          refine ⟨if cap = k then q else Option.map (fun x => x.add (k * 2)) q, cap - k, by first | rw [HR.out] | (rw [← HR.out]; simp), ?_, ?_⟩
          · intro h
            split at h
            · omega
            · simp at h; have := HN.out h; omega
          · by_cases hlt2 : k < k
            · rw [if_neg (by omega)]
              have := HLD.out hlt2 w' (cap - k) (HB4.out.trans (HG.out.mono HB4.out.size))
              rw [HR.out] at this
              exact this
            · exact lst_empty _ _ _ _ _ (List.eq_nil_of_length_eq_zero (by rw [← HR.out]; omega)) (by rw [← HR.out]; omega)
        · simp [execOp, h1, Oper.uponIn]
          exact ⟨_, rfl, rfl, Below.refl _ _⟩
        · simp [execOp, resolve, invoke, hd]
          simp [go_sem, Oper.uponIn]
          refine ⟨rfl, (callsIn_wide.2 (HM.out w')).mono ?_⟩
          rintro e w5 ⟨rfl, rfl⟩
          exact ⟨_, rfl, ⟨_, rfl, Boxed.new _ 9 _⟩, bnew _ _⟩
        · obtain ⟨⟨q', c', d1, d2, d3⟩, b, d4, d5⟩ := hd
          simp [execOp, resolve, invoke, d1, d4]
          simp [go_sem, Oper.uponIn]
          refine ⟨rfl, (callsIn_wide.2 (without_is nm b q' c' rest d2 (by rw [← HR.out]; omega) w' d3 d5)).mono ?_⟩
          rintro e w5 ⟨⟨q5, c5, rfl, ho5⟩, hb5⟩
          exact ⟨_, rfl, ⟨q5, c5, rfl, ⟨ho5.1, ho5.2.imp id (fun ⟨g, cap, cur, h1, h2, h3⟩ => ⟨g, cap, cur, h1, Nat.le_trans HG.out.size h2, h3⟩)⟩⟩, hb5⟩
      case htail =>
        intro a w' hF hg hv
        have h26 : a.eval (.tmp 26) = v4 := hv 0 (by omega)
        obtain ⟨q6, c6, h32, ho6⟩ : ∃ q' c', a.eval (.tmp 32) = .slice q' (dropN nm rest).length c' ∧ OwnF w' w4.heap.size (.slice q' (dropN nm rest).length c') (dropN nm rest) := hv 6 (by omega)
        have hlt1 : (l.take k ++ [(nm, va)]).length = k + 1 := by rw [List.length_append, List.length_take_of_le (by omega)]; rfl
        have hdl : (dropN nm rest).length ≤ rest.length := List.length_filter_le _ _
        have hrl := HR.out
        have hB' := HB4.out.trans (hg.mono HB4.out.size)
        obtain ⟨v7, w7, hrun, ho7, hgr7, _⟩ := run_append_pairs2 (w := w') 22 w.heap.size v4 _ (Ks.own_to HO4.out hg) w4.heap.size _ _ ho6 (by omega) hB'.size
        have HB7 := Lib.hid (show Below w.heap.size w w7 from hB'.grown hgr7 hB'.size (fun k hk => ((Ks.own_to HO4.out hg).lt k hk).1))
        refine Ks.opsIn_cons (o := _) rfl rfl ?_
        unfold Oper.wpIn
        refine ⟨fun _ _ => trivial, ?_⟩
        rw [Oper.semAt_plain Fence.wide _ _ (by intro c hc'; cases hc')]
        simp [execOp, resolve, invoke, builtin, h26, h32, hrun, Oper.uponIn]
        have hl7 : (putL nm va l).length ≤ 4398046511104 := by rw [← HPUT.out, List.length_append]; omega
        rw [HPUT.out] at ho7
        obtain ⟨q7, c7, rfl⟩ := Ks.own_slice ho7
        have hfp := HFT.out
        rw [HPUT.out] at hfp
        have HFR := Lib.hid (fresh_is w.heap.size q7 c7 (putL nm va l) hfp (by omega) w7 ho7 HB7.out.size)
        refine Ks.opsIn_cons (o := _) rfl rfl ?_
        unfold Oper.wpIn
        refine ⟨fun _ _ => trivial, ?_⟩
        rw [Oper.semAt_plain Fence.wide _ _ (by intro c hc'; cases hc')]
        have h33 : (a.put (some 33) (.slice q7 (putL nm va l).length c7)).eval (.tmp 33) = .slice q7 (putL nm va l).length c7 := Act.eval_put_same _ _ _ (by rw [hF.1]; simp)
        simp [execOp, resolve, invoke, h33]
        simp [go_sem, Oper.uponIn]
        refine ⟨rfl, (callsIn_wide.2 HFR.out).mono ?_⟩
        rintro e w8 ⟨⟨rfl, ho8⟩, hb8⟩
        have HO8 := Lib.hid ho8
        have HB8 := Lib.hid (HB7.out.trans hb8)
        clear ho8 hb8 ho7 hgr7 hrun
        refine Ks.opsIn_cons (o := _) rfl rfl ?_
        unfold Oper.wpIn
        refine ⟨fun _ _ => trivial, ?_⟩
        rw [Oper.semAt_plain Fence.wide _ _ (by intro c hc'; cases hc')]
        have hsz : a.tmps.size = 35 := hF.1
        have h34 : ((a.put (some 33) (.slice q7 (putL nm va l).length c7)).put (some 34) (.slice q7 (putL nm va l).length c7)).eval (.tmp 34) = .slice q7 (putL nm va l).length c7 := Act.eval_put_same _ _ _ (by simp [Act.put, hsz])
        simp [execOp]
        simp [go_sem, Oper.uponIn]
        rw [if_pos (show 34 < a.tmps.size by omega)]
        have hts : ((a.tmps.setIfInBounds 33 (.slice q7 (putL nm va l).length c7)).setIfInBounds 34 (.slice q7 (putL nm va l).length c7)).size = 35 := by simp [hsz]
        generalize (a.tmps.setIfInBounds 33 (.slice q7 (putL nm va l).length c7)).setIfInBounds 34 (.slice q7 (putL nm va l).length c7) = T at hts
        rw [show a.defers = [] from hF.2.1]
        clear HFR hfp h33 h34 h26 h32 hv hg hF ho6 hsz HFT HPUT HR HLD HI HM HV HF HK HN HI0 hi hz0 hz1 hz2 HO4
        refine ‹∀ (a : Act) (w : World), Code.wp Tryd.prog Code.ret _ a w → _› _ _ ?_
        have hT6 : (Act.mk (T.setIfInBounds 6 (.slice q7 (putL nm va l).length c7)) []).eval (.tmp 6) = .slice q7 (putL nm va l).length c7 := Act.eval_put_same ⟨T, []⟩ 6 _ (by show 6 < T.size; omega)
        go_wp2
        go_ret
        exact ⟨⟨q7, c7, congrArg Ending.returned hT6, HO8.out⟩, HB8.out⟩
end Go.Proofs.YtnjnhgeafbofkaaDoor
