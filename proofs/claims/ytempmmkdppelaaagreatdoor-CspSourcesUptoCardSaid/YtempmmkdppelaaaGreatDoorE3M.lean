/-
  csp's Header: the walk.
-/
import Derived.Test.YtempmmkdppelaaaGreatDoorE2M
namespace Go.Proofs.YtempmmkdppelaaaGreatDoor
open Go.RowKit Go.Shelf
attribute [local go_sem] Oper.semAt_some
/-- what Header answers in memory -/
def HeRet (w : World) (rep : Bool) (st : Except Nat (List (List Dir))) (e : Ending) (w' : World) : Prop :=
  (match st with
   | .error c => e = .returned (.tuple #[.slice none 0 0, .int .i64 c])
   | .ok l => ∃ v ps, e = .returned (.tuple #[v, .int .i64 0]) ∧ OwnP w' w.heap.size rep v ps ∧ l = ps.map RP.pol) ∧ Below w.heap.size w w'
set_option maxRecDepth 100000 in
set_option maxHeartbeats 2000000 in
theorem header_box (n : Nat) (hn : 6 ≤ n) (lv : Value) (l : List ByteArray) (rep : Bool) (hm : l.length ≤ 2097152) (hz : ∀ x ∈ l, x.size ≤ 2097152) (w : World) (hv : Strs w lv l) :
    CallsIn Fence.wide n Tryz.prog 12 #[lv, .bool rep] w (HeRet w rep (headP l)) := by
  have h1 : 1 ≤ n := by omega
  obtain ⟨p, cap, rfl, hA⟩ := hv
  have HA := Lib.hid hA
  have HZ := Lib.hid hz
  clear hA hz
  refine callsIn_of_wp_marks Tryz.func12 rfl trivial ?_ rfl
  simp only [Tryz.ntmps12, List.size_toArray, List.length_cons, List.length_nil, Nat.reduceAdd, Nat.reduceSub, Array.replicate_succ, Array.replicate_zero, List.push_toArray, List.append_toArray, List.nil_append, List.cons_append]
  gi_wp2_with fail
  obtain ⟨w2, hw2⟩ : ∃ w2, w2 = (((w.alloc (.cells #[.bool rep] 4)).alloc (.cells #[.slice none 0 0] 29)).alloc (.cells #[.int .i64 0] 26)).alloc (.cells #[.slice none 0 0] 29) := ⟨_, rfl⟩
  have hC0 : CoreH w rep [] (fun _ _ => True) (partsH (l.take 0)) w2 := by
    rw [hw2]
    refine ⟨⟨_, [], ?_, ⟨World.ownsRow_nil _ _ _ _, by simp⟩, trivial, by simp [partsH, foldH]⟩, ?_, ?_, ?_, ?_, by simp⟩
    · have := Has.new (((w.alloc (.cells #[.bool rep] 4)).alloc (.cells #[.slice none 0 0] 29)).alloc (.cells #[.int .i64 0] 26)) (.cells #[.slice none 0 0] 29); simpa using this
    · exact ((((Below.refl _ w).alloc (Nat.le_refl _) _).alloc (by simp) _).alloc (by simp; omega) _).alloc (by simp; omega) _
    · exact (((Has.new w _).alloc _).alloc _).alloc _
    · have := ((Has.new (w.alloc (.cells #[.bool rep] 4)) (.cells #[.slice none 0 0] 29)).alloc (.cells #[.int .i64 0] 26)).alloc (.cells #[.slice none 0 0] 29); simpa using this
    · have := (Has.new ((w.alloc (.cells #[.bool rep] 4)).alloc (.cells #[.slice none 0 0] 29)) (.cells #[.int .i64 0] 26)).alloc (.cells #[.slice none 0 0] 29); simpa using this
  rw [← hw2]
  clear hw2
  refine wpIn_loop (fun a' W => ∃ (k : Nat) (ds : List Nat) (u8 u15 u16 u17 u18 u19 u43 : Value), k ≤ l.length ∧ CoreH w rep ds (fun _ _ => True) (partsH (l.take k)) W ∧ (ds.Nodup ∧ ∀ D ∈ ds, w.heap.size + 4 ≤ D) ∧ a' = { tmps := #[.slice p l.length cap, .bool rep, undef, .pointer (some ⟨w.heap.size, 0, none⟩), .pointer (some ⟨w.heap.size + 1, 0, none⟩), .pointer (some ⟨w.heap.size + 1 + 1, 0, none⟩), .pointer (some ⟨w.heap.size + 1 + 1 + 1, 0, none⟩), undef, u8, undef, undef, undef, .slice p l.length cap, .int .i64 l.length, .int .i64 k, u15, u16, u17, u18, u19, undef, undef, undef, undef, undef, undef, undef, undef, undef, undef, undef, undef, undef, undef, undef, undef, undef, undef, undef, undef, undef, undef, undef, u43, undef, undef, undef, undef], defers := ds.map mark }) (fun a' _ => l.length - (intOf (a'.tmps.getD 14 undef)).toNat) ⟨0, [], undef, undef, undef, undef, undef, undef, undef, by omega, hC0, by simp, rfl⟩ ?_
  rintro a0 W ⟨k, ds, u8, u15, u16, u17, u18, u19, u43, hk, hC, ⟨hnd, hds⟩, rfl⟩
  by_cases hlt : k < l.length
  · obtain ⟨g, o, rfl, hg, hx⟩ := HA.out k l[k] (getT hlt)
    have hx2 := (hC.b.cell (p := ⟨g, o + k, none⟩) hg).trans hx
    have i1 : (k : Int) < (l.length : Int) := by omega
    have HC := Lib.hid hC
    have HX := Lib.hid hx2
    have HL := Lib.hid (HZ.out _ (List.getElem_mem hlt))
    have HP := Lib.hid (partsH_take hlt)
    have HP2 := Lib.hid (partsH_prefix hlt)
    clear hC hx
    generalize l[k] = s at *
    gi_wp2_with (refine ⟨trivial, ?_⟩; gi_at_call 31; refine (Ks.splitseq_in 44 (n - 1) _ _).mono ?_; rintro e w' ⟨rfl, rfl⟩)
    obtain ⟨w3, hw3⟩ : ∃ w3, w3 = ((W.alloc (.cells #[.string s] 9)).alloc (.cells #[.string ⟨#[44]⟩] 9)).alloc (.cells #[.int .i64 0] 3) := ⟨_, rfl⟩
    have bS : Boxed w3 W.heap.size 9 (.string s) := by rw [hw3]; exact ((Boxed.new W 9 _).alloc _).alloc _
    have bE : Boxed w3 (W.heap.size + 1) 9 (.string ⟨#[44]⟩) := by rw [hw3]; have := (Boxed.new (W.alloc (.cells #[.string s] 9)) 9 (.string ⟨#[44]⟩)).alloc (.cells #[.int .i64 0] 3); simpa using this
    have bV : Boxed w3 (W.heap.size + 2) 3 (.int .i64 0) := by rw [hw3]; have := Boxed.new ((W.alloc (.cells #[.string s] 9)).alloc (.cells #[.string ⟨#[44]⟩] 9)) 3 (.int .i64 0); simpa using this
    have hb3 : Below W.heap.size W w3 := by rw [hw3]; exact (((Below.refl _ W).alloc (Nat.le_refl _) _).alloc (by simp) _).alloc (by simp; omega) _
    have z3 : w3.heap.size = W.heap.size + 3 := by rw [hw3]; simp
    have hWw : w.heap.size + 4 ≤ W.heap.size := by obtain ⟨_, _, h3, _⟩ := HC.out.out; have := h3.lt; omega
    have hI0 : InvH w rep ds W.heap.size (partsH (l.take k) ++ ([] : List Ks.PL).map Subtype.val) w3 := by
      have hC := HC.out
      obtain ⟨v, ps, h3, ho, _, hp⟩ := hC.out
      rw [List.map_nil, List.append_nil]
      exact ⟨⟨⟨v, ps, h3.to hb3, ho.to hb3, ho.off (Nat.le_refl _), hp⟩, hC.b.trans (hb3.mono hC.b.size), hC.hr.to hb3, hC.h1.to hb3, hC.h2.to hb3, fun D hD => Has.to (hC.marks D hD) hb3⟩, ⟨s, bS⟩, bE, bV⟩
    have hdl : ∀ D ∈ ds, D < W.heap.size := fun D hD => (HC.out.marks D hD).lt
    rw [← hw3]
    clear hw3 hb3
    refine Ks.wpIn_rangeFunc_box rfl h1 (gf := 76) (lb := #[.pointer (some ⟨W.heap.size + 1, 0, none⟩), .pointer (some ⟨W.heap.size, 0, none⟩), .pointer (some ⟨W.heap.size + 2, 0, none⟩)]) rfl trivial (enters_of Tryz.func76 (by kernel_rfl) rfl) (bx := W.heap.size) (ks := [W.heap.size, W.heap.size + 1, W.heap.size + 2]) (by simp; omega) (by simp)
      (Ks.iter_col 44 (n - 1) (by omega) _ _ _ s HL.out w3 bS bE bV (by omega)) (fun _ => rfl)
      (fun pre W1 => InvH w rep ds W.heap.size (partsH (l.take k) ++ pre.map Subtype.val) W1) (fun c pre W1 => StopH w ds c (partsH (l.take k) ++ pre.map Subtype.val) W1) (invH_box w rep ds _ _ _ (by omega) hWw (fun D hD => by have := hdl D hD; omega)) (fun c => stopH_box w ds c _ _ _ (by omega) hWw (fun D hD => by have := hdl D hD; omega))
      hI0 (fun x => { tmps := #[.slice (some ⟨g, o, none⟩) l.length cap, .bool rep, undef, .pointer (some ⟨w.heap.size, 0, none⟩), .pointer (some ⟨w.heap.size + 1, 0, none⟩), .pointer (some ⟨w.heap.size + 1 + 1, 0, none⟩), .pointer (some ⟨w.heap.size + 1 + 1 + 1, 0, none⟩), undef, .string s, .string ⟨x.1.toArray⟩, undef, undef, .slice (some ⟨g, o, none⟩) l.length cap, .int .i64 l.length, .int .i64 k, .bool true, .pointer (some ⟨g, o + k, none⟩), .string s, .string s, .func (.func 76) #[] #[.pointer (some ⟨W.heap.size + 1, 0, none⟩), .pointer (some ⟨W.heap.size, 0, none⟩), .pointer (some ⟨W.heap.size + 2, 0, none⟩)], .string ⟨x.1.toArray⟩, undef, undef, undef, undef, undef, undef, undef, undef, undef, undef, undef, undef, undef, undef, undef, undef, undef, undef, undef, undef, undef, undef, u43, undef, undef, undef, undef], defers := [] }) ?assign ?body ?done ?stop
    case assign =>
      intro l x W K hK
      unfold Ks.encS
      gi_wp2_with fail
      exact hK
    case body =>
      intro l2 pre x W1 hI hlt2
      have HI := Lib.hid hI
      obtain ⟨y, hy⟩ : ∃ y : ByteArray, y = ⟨x.1.toArray⟩ := ⟨_, rfl⟩
      have hyx : (⟨x.1.toArray⟩ : ByteArray) = y := hy.symm
      have hys : y.size ≤ 2097152 := by rw [hy]; show x.1.toArray.size ≤ _; have := x.2; simpa using this
      have HM := Lib.hid (show foldH (partsH (l.take k) ++ (pre ++ [x]).map Subtype.val) = stepH (foldH (partsH (l.take k) ++ pre.map Subtype.val)) x.1 by rw [List.map_append, ← List.append_assoc]; exact foldH_snoc _ _)
      have HY := Lib.hid hyx
      rw [hyx]
      have hrc := hI.c.hr.cell 0 rfl
      obtain ⟨v, ps, h3, ho, hoff, hp⟩ := hI.c.out
      rw [hp] at HM
      obtain ⟨st, hst⟩ : ∃ st, parseP y = st := ⟨_, rfl⟩
      have HQ := Lib.hid (parse_is y rep (by omega) W1)
      rw [hst] at HQ
      have hS := HM.out
      unfold stepH at hS
      simp only [hyx, hst, List.length_map] at hS
      have hkW : w.heap.size + 4 ≤ W1.heap.size := by have := h3.lt; have := hI.tx; obtain ⟨_, h⟩ := this; have := Has.lt h; omega
      have HO := Lib.hid (And.intro h3 (And.intro ho hoff))
      have hpl := foldH_len _ hp
      rw [List.length_map] at hpl
      clear hI hy hyx h3 ho hoff hp HM HY
      cases st with
      | error c =>
        have hc := parseP_err hst
        have HS := Lib.hid hS
        clear hS hst
        gi_wp2_with fail
        refine ⟨trivial, fun _ => by omega, ?_⟩
        refine (callsIn_wide.2 HQ.out).mono ?_
        rintro e w4 ⟨he, hb4⟩
        simp only [polV] at he
        subst he
        have hb5 : Below W1.heap.size W1 (w4.alloc (.cells #[.slice none 0 0, .bool false] 25)) := hb4.alloc hb4.size _
        obtain ⟨k1, k2, k3, k4, s0, s1⟩ := store2 (.slice none 0 0) (.int .i64 c) (HI.out.c.h1.to hb5) (HI.out.c.h2.to hb5)
        have fin : KeepsOthers W1 (st2 (w4.alloc (.cells #[.slice none 0 0, .bool false] 25)) (w.heap.size + 1) (.slice none 0 0) (.int .i64 c)) ∧ StopH w ds .ret (partsH (l.take k) ++ (pre ++ [x]).map Subtype.val) (st2 (w4.alloc (.cells #[.slice none 0 0, .bool false] 25)) (w.heap.size + 1) (.slice none 0 0) (.int .i64 c)) :=
          ⟨(keeps_below hb5).trans (st2_keeps _ _ _ _), ⟨st2_below _ _ (HI.out.c.b.trans (hb5.mono HI.out.c.b.size)) (by omega), ⟨c, HS.out, s1⟩, s0, fun D hD => ((Has.to (HI.out.c.marks D hD) hb5).far (by have := hds D hD; simp; omega) _).far (by have := hds D hD; simp; omega) _, rfl⟩⟩
        have HF := Lib.hid fin
        clear fin s0 s1 hb4 hb5 HQ
        rcases hc with rfl | rfl
        · gi_wp2_with fail
          exact HF.out
        · gi_wp2_with fail
          exact HF.out
      | ok pl =>
        have hS2 := HQ.out
        clear hst HQ
        gi_wp2_with fail
        refine ⟨trivial, fun _ => by omega, ?_⟩
        refine (callsIn_wide.2 hS2).mono ?_
        rintro e w4 ⟨⟨pv, rs, he, hod, hpl2, hl64⟩, hb4⟩
        obtain ⟨pq, pc, rfl⟩ : ∃ q c, pv = .slice q rs.length c := own_any hod.row
        simp only [polV] at he
        subst he
        obtain ⟨q, c, rfl⟩ : ∃ q c, v = .slice q ps.length c := own_any HO.out.2.1.row
        have hb5 : Below W1.heap.size W1 (w4.alloc (.cells #[.slice pq rs.length pc, .bool rep] 25)) := hb4.alloc hb4.size _
        have hn5 : Has (w4.alloc (.cells #[.slice pq rs.length pc, .bool rep] 25)) w4.heap.size (.cells #[.slice pq rs.length pc, .bool rep] 25) := Has.new _ _
        have n0 := hn5.cell 0 rfl
        have n1 := hn5.cell 1 rfl
        have h35 := HO.out.1.to hb5
        have o0 := h35.cell 0 rfl
        have o1 := h35.free 0
        have HB5 := Lib.hid hb5
        have HOD := Lib.hid (hod.to (bnew w4 (.cells #[.slice pq rs.length pc, .bool rep] 25)))
        have HB4 := Lib.hid hb4
        clear hb5 hn5 h35 hod hb4 hS2
        have hrl : pl.length = rs.length := by rw [hpl2, List.length_map]
        have HPL := Lib.hid hpl2
        rw [hrl] at hS
        have HS := Lib.hid hS
        clear hS hpl2
        have HGo := Lib.hid (show foldH (partsH (l.take k) ++ (pre ++ [x]).map Subtype.val) = .ok (ps.map RP.pol) → KeepsOthers W1 (w4.alloc (.cells #[.slice pq rs.length pc, .bool rep] 25)) ∧ (∀ k ∈ [W.heap.size, W.heap.size + 1, W.heap.size + 2], (w4.alloc (.cells #[.slice pq rs.length pc, .bool rep] 25)).heap[k]? = W1.heap[k]?) ∧ InvH w rep ds W.heap.size (partsH (l.take k) ++ (pre ++ [x]).map Subtype.val) (w4.alloc (.cells #[.slice pq rs.length pc, .bool rep] 25)) from by
          intro hp
          have hI := HI.out
          obtain ⟨h3, ho, hoff⟩ := HO.out
          have hb := HB5.out
          obtain ⟨tx, htx⟩ := hI.tx
          refine ⟨keeps_below hb, ?_, ⟨⟨⟨_, ps, h3.to hb, ho.to hb, hoff, hp⟩, hI.c.b.trans (hb.mono hI.c.b.size), hI.c.hr.to hb, hI.c.h1.to hb, hI.c.h2.to hb, fun D hD => Has.to (hI.c.marks D hD) hb⟩, ⟨tx, Has.to htx hb⟩, Boxed.to' hI.be hb, Boxed.to' hI.bv hb⟩⟩
          intro k hk
          simp only [List.mem_cons, List.mem_nil_iff, or_false] at hk
          rcases hk with rfl | rfl | rfl
          · exact hb.block _ (Has.lt htx)
          · exact hb.block _ hI.be.lt
          · exact hb.block _ hI.bv.lt)
        by_cases hr0 : 0 < rs.length
        · have g2 : decide ((0 : Int) < (rs.length : Int)) = true := by simp; omega
          by_cases hp64 : ps.length ≤ 64
          · have g3 : decide ((ps.length : Int) ≤ 64) = true := by simp; omega
            have HS2 := Lib.hid (show foldH (partsH (l.take k) ++ (pre ++ [x]).map Subtype.val) = .ok (ps.map RP.pol ++ [pl]) from by rw [HS.out, if_pos ⟨hr0, hp64⟩])
            obtain ⟨i0, hi0, hz0, hz1, hz2⟩ := info_parts info25f
            have hb6 : Below W1.heap.size W1 ((w4.alloc (.cells #[.slice pq rs.length pc, .bool rep] 25)).alloc (.cells #[.slice pq rs.length pc, .bool rep] 25)) := HB5.out.alloc HB5.out.size _
            have HOP := Lib.hid (HO.out.2.1.to hb6)
            have HB6 := Lib.hid hb6
            have hnr : Has ((w4.alloc (.cells #[.slice pq rs.length pc, .bool rep] 25)).alloc (.cells #[.slice pq rs.length pc, .bool rep] 25)) (w4.heap.size + 1) (.cells #[.slice pq rs.length pc, .bool rep] 25) := by have := Has.new (w4.alloc (.cells #[.slice pq rs.length pc, .bool rep] 25)) (.cells #[.slice pq rs.length pc, .bool rep] 25); simpa using this
            have m0 := hnr.cell 0 rfl
            have m1 := hnr.cell 1 rfl
            clear hb6 hnr
            gi_wp2_with (gi_at_builtin; refine wpListIn_append_own _ rfl (.tmp 39) (.tmp 41) 29 rfl (w.heap.size + 4) 25 i0 (.agg #[.slice none 0 0, .bool false]) 2 32 Tryz.underlying29 hi0 hz0 hz1 hz2 rfl (by decide) _ _ _ rfl HOP.out.row ⟨w4.heap.size + 1, 0, none⟩ 1 1 [.slice pq rs.length pc, .bool rep] rfl rfl ?c1 ?c2 ?c3 ?c4 ?c5 ?_)
            case c1 =>
              intro j z hj
              match j, hj with
              | 0, hj => simp at hj; subst hj; exact m0
              | 1, hj => simp at hj; subst hj; exact m1
              | j + 2, hj => simp at hj
            case c2 => intro z hz; simp at hz; rcases hz with rfl | rfl <;> rfl
            case c3 => unfold maxLen; omega
            case c4 => omega
            case c5 => have := HB6.out.size; omega
            intro v' w7 hown hgr _
            obtain ⟨p1, p2, p3, p4, p5, p6, p7⟩ := push_allP (n := w.heap.size) (p := ⟨.slice pq rs.length pc, rs⟩) (HO.out.1.to HB6.out) HOP.out (ownD_base (HOD.out.to (bnew _ _)) (by omega)) hgr hown (show w.heap.size + 3 < w.heap.size + 4 by omega) (by omega) (by have := HB6.out.size; omega)
            obtain ⟨q', c', rfl⟩ : ∃ q c, v' = .slice q (ps.length + 1) c := own_any hown
            have fin : KeepsOthers W1 (w7.setCell ⟨w.heap.size + 3, 0, none⟩ (.slice q' (ps.length + 1) c')) ∧ (∀ k ∈ [W.heap.size, W.heap.size + 1, W.heap.size + 2], (w7.setCell ⟨w.heap.size + 3, 0, none⟩ (.slice q' (ps.length + 1) c')).heap[k]? = W1.heap[k]?) ∧ InvH w rep ds W.heap.size (partsH (l.take k) ++ (pre ++ [x]).map Subtype.val) (w7.setCell ⟨w.heap.size + 3, 0, none⟩ (.slice q' (ps.length + 1) c')) := by
              have hI := HI.out
              obtain ⟨tx, htx⟩ := hI.tx
              have t3 := p5 _ _ (Has.to htx HB6.out) (by intro cs f e; cases e) (by omega)
              have t4 := p5 _ _ (Has.to hI.be HB6.out) (by intro cs f e; cases e) (by omega)
              have t5 := p5 _ _ (Has.to hI.bv HB6.out) (by intro cs f e; cases e) (by omega)
              have toff : OffP W.heap.size (.slice q' (ps.length + 1) c') (ps ++ [⟨.slice pq rs.length pc, rs⟩]) := by
                refine ⟨own_offT p4.row t3 (by intro cs f e; cases e), fun r hr => ?_⟩
                rcases List.mem_append.1 hr with h | h
                · exact HO.out.2.2.pols r h
                · rw [List.mem_singleton] at h; subst h
                  exact ownD_off HOD.out (.inl (Has.lt htx))
              refine ⟨(keeps_below HB6.out).trans p6, ?_, ⟨⟨⟨_, _, p3, p4, toff, by rw [HS2.out, List.map_append, HPL.out]; rfl⟩, p7 w (hI.c.b.trans (HB6.out.mono hI.c.b.size)), p5 _ _ (hI.c.hr.to HB6.out) (by intro cs f e; cases e) (by omega), p5 _ _ (hI.c.h1.to HB6.out) (by intro cs f e; cases e) (by omega), p5 _ _ (hI.c.h2.to HB6.out) (by intro cs f e; cases e) (by omega), fun D hD => p5 _ _ (Has.to (hI.c.marks D hD) HB6.out) (by intro cs f e; cases e) (by have := hds D hD; omega)⟩, ⟨tx, t3⟩, t4, t5⟩⟩
              intro j hj
              simp only [List.mem_cons, List.mem_nil_iff, or_false] at hj
              rcases hj with rfl | rfl | rfl
              · exact Eq.trans t3 htx.symm
              · exact Eq.trans t4 (Eq.symm hI.be)
              · exact Eq.trans t5 (Eq.symm hI.bv)
            have HF := Lib.hid fin
            clear fin p3 p4 p5 p6 p7 hown hgr
            gi_wp2_with fail
            exact HF.out
          · have g3 : decide ((ps.length : Int) ≤ 64) = false := by simp; omega
            have HS2 := Lib.hid (show foldH (partsH (l.take k) ++ (pre ++ [x]).map Subtype.val) = .ok (ps.map RP.pol) from by rw [HS.out, if_neg (fun h => hp64 h.2)])
            gi_wp2_with fail
            exact HGo.out HS2.out
        · have g2 : decide ((0 : Int) < (rs.length : Int)) = false := decide_eq_false (by omega)
          have HS2 := Lib.hid (show foldH (partsH (l.take k) ++ (pre ++ [x]).map Subtype.val) = .ok (ps.map RP.pol) from by rw [HS.out, if_neg (fun h => hr0 h.1)])
          gi_wp2_with fail
          exact HGo.out HS2.out
    case done =>
      rintro D ys W1 hD hys hI hK
      obtain ⟨v, ps, h3, ho, hoff, hp⟩ := hI.c.out
      rw [hys, ← HP.out] at hp
      have hC2 : CoreH w rep (D :: ds) (fun _ _ => True) (partsH (l.take (k + 1))) W1 := by
        refine ⟨⟨v, ps, h3, ho, trivial, hp⟩, hI.c.b, hI.c.hr, hI.c.h1, hI.c.h2, ?_⟩
        intro E hE
        rcases List.mem_cons.1 hE with rfl | hE
        · exact hK
        · exact hI.c.marks E hE
      have HC2 := Lib.hid hC2
      have HD := Lib.hid (show (D :: ds).Nodup ∧ ∀ E ∈ D :: ds, w.heap.size + 4 ≤ E from by
        refine ⟨List.nodup_cons.2 ⟨fun h => ?_, hnd⟩, fun E hE => ?_⟩
        · have := hdl D h; omega
        · rcases List.mem_cons.1 hE with rfl | hE
          · omega
          · exact hds E hE)
      clear hI hK h3 ho hoff hp hC2 hys
      gi_wp2_with fail
      refine ⟨⟨k + 1, D :: ds, _, _, _, _, _, _, _, by omega, HC2.out, HD.out, rfl⟩, ?_⟩
      simp [intOf]; omega
    case stop =>
      rintro D cd pre W1 hD hSp hI hK
      have hr := hI.r
      subst hr
      obtain ⟨c, hc, h2⟩ := hI.n
      have hp : headP l = .error c := by
        obtain ⟨t1, ht1⟩ := hSp
        obtain ⟨t2, ht2⟩ := HP2.out
        unfold headP
        rw [ht2, ← ht1, ← List.append_assoc, List.append_assoc, List.append_assoc] at *
        rw [← List.append_assoc, foldH_error hc]
      have hX := Lib.hid (And.intro hI (And.intro hp (And.intro hK h2)))
      clear hI hp hK h2 hc hSp
      gi_wp2_with fail
      obtain ⟨hI, hp, hK, h2⟩ := hX.out
      refine leaves_marks (D :: ds) W1 (List.nodup_cons.2 ⟨fun h => by have := hdl D h; omega, hnd⟩) ?_ ?_
      · intro E hE
        rcases List.mem_cons.1 hE with rfl | hE
        · exact hK
        · exact hI.marks E hE
      · intro W' hc hb
        have u0 := (hc.has hI.h1).cell 0 rfl
        have u1 := (hc.has h2).cell 0 rfl
        refine ⟨.tuple #[.slice none 0 0, .int .i64 c], ?_, ?_⟩
        · simp [results, Tryz.results12, go_sem, u0, u1]
        · refine ⟨?_, hb _ _ (fun E hE => ?_) hI.b⟩
          · rw [hp]
          · rcases List.mem_cons.1 hE with rfl | hE
            · omega
            · have := hds E hE; omega
  · have hkl : k = l.length := by omega
    obtain ⟨v, ps, h3, ho, _, hp⟩ := hC.out
    rw [hkl, List.take_length] at hp
    obtain ⟨q, c, rfl⟩ : ∃ q c, v = .slice q ps.length c := own_any ho.row
    have i1 : ¬ ((k : Int) < (l.length : Int)) := by omega
    have v0 := h3.cell 0 rfl
    by_cases h65 : 64 < ps.length
    · have g3 : decide ((64 : Int) < (ps.length : Int)) = true := decide_eq_true (by omega)
      have HPh := Lib.hid (show headP l = .error 3 by unfold headP; rw [hp]; simp only [List.length_map]; rw [if_pos h65])
      obtain ⟨k1, k2, k3, k4, s0, s1⟩ := store2 (.slice none 0 0) (.int .i64 3) hC.h1 hC.h2
      have HX := Lib.hid (And.intro hC (And.intro s0 s1))
      clear hC h3 ho hp s0 s1
      gi_wp2_with fail
      obtain ⟨hC, s0, s1⟩ := HX.out
      unfold st2 at s0 s1
      refine leaves_marks ds _ hnd (fun D hD => ((Has.far (hC.marks D hD) (by have := hds D hD; simp; omega) _).far (by have := hds D hD; simp; omega) _)) ?_
      intro W' hc hb
      have u0 := (hc.has s0).cell 0 rfl
      have u1 := (hc.has s1).cell 0 rfl
      refine ⟨.tuple #[.slice none 0 0, .int .i64 3], ?_, ?_⟩
      · simp [results, Tryz.results12, go_sem, u0, u1]
      · refine ⟨?_, hb _ _ (fun E hE => by have := hds E hE; omega) (st2_below _ _ hC.b (by omega))⟩
        rw [HPh.out]; rfl
    · have g3 : decide ((64 : Int) < (ps.length : Int)) = false := decide_eq_false (by omega)
      have HPh := Lib.hid (show headP l = .ok (ps.map RP.pol) by unfold headP; rw [hp]; simp only [List.length_map]; rw [if_neg h65])
      obtain ⟨k1, k2, k3, k4, s0, s1⟩ := store2 (.slice q ps.length c) (.int .i64 0) hC.h1 hC.h2
      have HX := Lib.hid (And.intro hC (And.intro s0 (And.intro s1 (ownP_st2 (a := .slice q ps.length c) (e := .int .i64 0) ho (show w.heap.size + 1 + 1 < w.heap.size + 4 by omega)))))
      clear hC h3 ho hp s0 s1
      gi_wp2_with fail
      obtain ⟨hC, s0, s1, so⟩ := HX.out
      unfold st2 at s0 s1 so
      refine leaves_marks ds _ hnd (fun D hD => ((Has.far (hC.marks D hD) (by have := hds D hD; simp; omega) _).far (by have := hds D hD; simp; omega) _)) ?_
      intro W' hc hb
      have u0 := (hc.has s0).cell 0 rfl
      have u1 := (hc.has s1).cell 0 rfl
      refine ⟨.tuple #[.slice q ps.length c, .int .i64 0], ?_, ?_⟩
      · simp [results, Tryz.results12, go_sem, u0, u1]
      · refine ⟨?_, hb _ _ (fun E hE => by have := hds E hE; omega) (st2_below _ _ hC.b (by omega))⟩
        rw [HPh.out]
        exact ⟨_, ps, rfl, ownP_base (so.cells hc) (by omega), rfl⟩
end Go.Proofs.YtempmmkdppelaaaGreatDoor
