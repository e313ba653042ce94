import Derived.Test.YtbclodbneonipaaGreatTKM
namespace Go.Proofs.YtbclodbneonipaaGreat
open Go.RowKit N
set_option maxRecDepth 20000 in
set_option maxHeartbeats 4000000 in
theorem put_some (g : Nat) (q : TQ) (outv : Value) (l : List Int) (st last r : Int) (hr : (Lit.int .i32 r).wf = true) (hwl : Wf32 l) (hlen : (l.length + 1) * 4 ≤ 140737488355328) (hst : -1 ≤ st ∧ st < l.length) (w0 w : World) (hf : Fit q.T) (hT0 : TabAt w0 q) (hb0 : Below w0.heap.size w0 w) (hgB : w0.heap.size ≤ g) (hG : Has w g (.cells (GC q outv st last) 62)) (hO : Own w w0.heap.size outv l) (hyes : decide (0 ≤ st ∧ (st = (l.length : Int) - 1 ∨ last < cls q.T r)) = true) (x : Int) (hbo : both q.T (l.getD st.toNat 0) r = some x) :
    Calls Tryz.prog 33 #[.pointer (some ⟨g, 0, none⟩), .int .i32 r] w fun e w' => e = .returned (.tuple #[]) ∧ ∃ outv', Has w' g (.cells (GC q outv' st last) 62) ∧ Own w' w0.heap.size outv' (l.set st.toNat x) ∧ Below w0.heap.size w0 w' := by
  obtain ⟨i0, hi, hz0, hz1, hz2⟩ := info_parts infoRune
  obtain ⟨p, cap, rfl, hcells⟩ := hO.form
  have HCE := Lib.hid hcells
  have HT0 := Lib.hid hT0
  have HF := Lib.hid hf
  have HO := Lib.hid hO
  have HG := Lib.hid hG
  have HB0 := Lib.hid hb0
  have HW := Lib.hid (And.intro hr hwl)
  have hB := hb0.size
  have hgl := hG.lt
  obtain ⟨c, hc⟩ : ∃ c, cls q.T r = c := ⟨_, rfl⟩
  have hcr := hf.cls r
  rw [hc] at hcr
  have HC := Lib.hid hc
  have m0 : w.cell? ⟨g, 0, none⟩ = some (.slice q.p0 q.T.spans.length q.c0) := hG.cell 0 rfl
  have m1 : w.cell? ⟨g, 1, none⟩ = some (.slice q.p1 q.T.classes.length q.c1) := hG.cell 1 rfl
  have m2 : w.cell? ⟨g, 2, none⟩ = some (.slice q.p2 q.T.pairs.length q.c2) := hG.cell 2 rfl
  have m3 : w.cell? ⟨g, 3, none⟩ = some (.slice q.p3 q.T.ways.length q.c3) := hG.cell 3 rfl
  have m4 : w.cell? ⟨g, 4, none⟩ = some (.slice q.p4 q.T.joins.length q.c4) := hG.cell 4 rfl
  clear hcells hT0 hf hO hG hb0 hr hwl hc
  obtain ⟨b, hb⟩ : ∃ b, decide (0 ≤ st ∧ (st = (l.length : Int) - 1 ∨ last < c)) = b := ⟨_, rfl⟩
  rw [HC.out] at hyes
  obtain rfl : b = true := by rw [← hb]; exact hyes
  have hyes2 := of_decide_eq_true hyes
  have HB := Lib.hid hb
  obtain ⟨s, rfl⟩ := Int.eq_ofNat_of_zero_le hyes2.1
  have hsl : s < l.length := by omega
  obtain ⟨a, ha⟩ : ∃ a, l[s]? = some a := ⟨_, List.getElem?_eq_getElem hsl⟩
  obtain ⟨go, rfl, hgo1, hgo2, hgo3, hgo4⟩ := HCE.out s a ha
  have hba : both q.T a r = some x := by
    have : l.getD (s : Int).toNat 0 = a := by simp [List.getD, ha]
    rw [← this]; exact hbo
  have HBA := Lib.hid hba
  have hwa : (Lit.int .i32 a).wf = true := HW.out.2 a (List.mem_of_getElem? ha)
  have HWA := Lib.hid hwa
  have HAs := Lib.hid ha
  clear hb hyes hyes2 hbo hba hwa ha hgo3 hgo4
  go_enter Tryz.func33, Tryz.ntmps33
  go_wp2_with fail
  refine (class_is q r c HC.out _ (HT0.out.below HB0.out) HF.out).mono ?_
  rintro e w1 ⟨rfl, hb1⟩
  have HG1 := Lib.hid (HG.out.to hb1)
  have HO1 := Lib.hid (HO.out.to hb1)
  have HB1 := Lib.hid (HB0.out.trans (hb1.mono hB))
  have hB1 := HB1.out.size
  clear hb1 m0 m1 m2 m3 m4
  go_wp2_with fail
  refine (reached_is g q _ l.length cap (by omega) (s : Int) last c hst true HB.out _ HG1.out).mono ?_
  rintro e w2 ⟨rfl, hb2⟩
  have HG2 := Lib.hid (HG1.out.to hb2)
  have HO2 := Lib.hid (HO1.out.to hb2)
  have HB2 := Lib.hid (HB1.out.trans (hb2.mono hB1))
  have hB2 := HB2.out.size
  have hgl2 := HG2.out.lt
  clear hb2
  obtain ⟨_, _, hpe, hce⟩ := HO2.out.form
  simp only [Value.slice.injEq] at hpe
  obtain ⟨rfl, _, rfl⟩ := hpe
  obtain ⟨_, hge, _, hg2l, hac, _⟩ := hce s a HAs.out
  simp only [Option.some.injEq, Addr.mk.injEq, and_true] at hge
  obtain rfl := hge
  have l5 : ∀ p : Later w2, p.v.cell? ⟨g, 5, none⟩ = some (.slice (some ⟨go, 0, none⟩) l.length cap) := fun p => p.c (HG2.out.cell 5 rfl) hgl2
  have l6 : ∀ p : Later w2, p.v.cell? ⟨g, 6, none⟩ = some (.int .i64 (s : Int)) := fun p => p.c (HG2.out.cell 6 rfl) hgl2
  have la : ∀ p : Later w2, p.v.cell? ⟨go, s, none⟩ = some (.int .i32 a) := fun p => p.c hac hg2l
  have lw : ∀ p : Later w2, Calls Tryz.prog 51 #[.pointer (some ⟨g, 0, none⟩), .int .i32 a, .int .i32 r] p.v fun e w' => e = .returned (.tuple #[.int .i32 x, .bool true]) ∧ Below p.v.heap.size p.v w' := fun p => whole_is g q _ _ _ a r HWA.out HW.out.1 (some x) HBA.out p.v (HG2.out.to p.h) (HT0.out.below (HB2.out.trans (p.h.mono hB2))) HF.out
  have LW := Lib.hid lw
  have hsz : (s : Int) < (l.length : Int) := by omega
  clear hce hac lw
  go_wp2_with fail
  refine wp_region_quiet_later (by kernel_rfl) (by kernel_rfl) ?_
  repeat (quiet_step ((go_at_call 51; exact Calls.later_of (LW.out _))))
  refine wpQuiet_nil ?_
  rintro _ ⟨pp, rfl⟩
  have HG4 := Lib.hid (HG2.out.to pp.h)
  have HO4 := Lib.hid (HO2.out.to pp.h)
  have HB4 := Lib.hid (HB2.out.trans (pp.h.mono hB2))
  have k5 := l5 pp
  have k6 := l6 pp
  have ka := la pp
  have kf := HO4.out.frozenAt s
  clear l5 l6 la
  obtain ⟨w4, hw4⟩ : ∃ w4, w4 = pp.v := ⟨_, rfl⟩
  rw [← hw4] at HG4 HO4 HB4 k5 k6 ka kf
  simp only [← hw4]
  clear hw4
  go_wp2_with fail
  go_region
  all_goals go_wp2
  refine bodyPost_ret (v := .tuple #[]) (by simp [results, Tryz.results33, go_sem]) rfl ⟨rfl, .slice (some ⟨go, 0, none⟩) l.length cap, ?_, ?_, (HB4.out.setCell (p := ⟨go, s, none⟩) hgo1 _).drew⟩
  · have hne : g ≠ go := by
      rcases own_ne HO4.out HG4.out (by decide) with h | h
      · simp [Value.ownBlock] at h
      · simp [Value.ownBlock] at h; exact fun e => h e.symm
    exact (HG4.out.far (p := ⟨go, s, none⟩) hne _)
  · have hst := (HO4.out.stored s (.int .i32 x)).1
    have e9 : ((l.set (s : Int).toNat x).length) = l.length := by simp
    have e8 : (l.set (s : Int).toNat x).map (Value.int .i32) = (l.map (Value.int .i32)).set s (.int .i32 x) := by rw [List.map_set]; simp
    unfold Own
    rw [e9, e8]
    exact hst
theorem wf_both {T : Tab} (hp : ∀ p ∈ T.pairs, (Lit.int .i32 p.r).wf = true) {a b x : Int} (h : both T a b = some x) : (Lit.int .i32 x).wf = true := by
  unfold both at h
  cases hh : hang a b with
  | some y =>
    rw [hh] at h
    simp only [Option.some.injEq] at h
    subst h
    unfold hang at hh
    split at hh
    · rename_i hc
      simp only [Option.some.injEq] at hh
      subst hh
      simp [Lit.wf, IntKind.min, IntKind.max, IntKind.signed, IntKind.bits]; omega
    · split at hh
      · rename_i hc
        simp only [Option.some.injEq] at hh
        subst hh
        simp [syl] at hc
        simp [Lit.wf, IntKind.min, IntKind.max, IntKind.signed, IntKind.bits]; omega
      · cases hh
  | none =>
    rw [hh] at h
    simp only at h
    unfold ptL at h
    split at h
    · cases h
    · obtain ⟨p, hp1, rfl⟩ := Option.map_eq_some_iff.1 h
      exact hp p (List.mem_of_find?_eq_some hp1)
theorem put33 (g : Nat) (q : TQ) (outv : Value) (l : List Int) (st last r : Int) (hr : (Lit.int .i32 r).wf = true) (hwl : Wf32 l) (hlen : (l.length + 1) * 4 ≤ 140737488355328) (hst : -1 ≤ st ∧ st < l.length) (w0 w : World) (hf : Fit q.T) (hT0 : TabAt w0 q) (hb0 : Below w0.heap.size w0 w) (hgB : w0.heap.size ≤ g) (hG : Has w g (.cells (GC q outv st last) 62)) (hO : Own w w0.heap.size outv l) (g' : Tg) (hg' : tstep q.T ⟨l, st, last⟩ r = g') :
    Calls Tryz.prog 33 #[.pointer (some ⟨g, 0, none⟩), .int .i32 r] w fun e w' => e = .returned (.tuple #[]) ∧ ∃ outv', Has w' g (.cells (GC q outv' g'.st g'.last) 62) ∧ Own w' w0.heap.size outv' g'.out ∧ Below w0.heap.size w0 w' := by
  unfold tstep at hg'
  simp only at hg'
  by_cases hy : 0 ≤ st ∧ (st = (l.length : Int) - 1 ∨ last < cls q.T r)
  · rw [if_pos hy] at hg'
    cases hb : both q.T (l.getD st.toNat 0) r with
    | some x =>
      rw [hb] at hg'
      subst hg'
      exact put_some g q outv l st last r hr hwl hlen hst w0 w hf hT0 hb0 hgB hG hO (decide_eq_true hy) x hb
    | none =>
      rw [hb] at hg'
      simp only at hg'
      subst hg'
      unfold push
      by_cases hz : cls q.T r = 0
      · have := put_none_z g q outv l st last r hr hwl hlen hst w0 w hf hT0 hb0 hgB hG hO (decide_eq_true hy) hz hb
        simpa [hz] using this
      · have := put_none_n g q outv l st last r hr hwl hlen hst w0 w hf hT0 hb0 hgB hG hO (decide_eq_true hy) hz hb
        simpa [hz] using this
  · rw [if_neg hy] at hg'
    subst hg'
    unfold push
    by_cases hz : cls q.T r = 0
    · have := put_far_z g q outv l st last r hr hwl hlen hst w0 w hf hT0 hb0 hgB hG hO (decide_eq_false hy) hz
      simpa [hz] using this
    · have := put_far_n g q outv l st last r hr hwl hlen hst w0 w hf hT0 hb0 hgB hG hO (decide_eq_false hy) hz
      simpa [hz] using this
end Go.Proofs.YtbclodbneonipaaGreat
namespace Go.Proofs.YtbclodbneonipaaGreat
open Go.RowKit N
theorem Own.at {w : World} {B : Nat} {v : Value} {l : List Int} (h : Own w B v l) : RunesAt w v l := by
  obtain ⟨p, cap, rfl, hc⟩ := h.form
  refine ⟨p, cap, rfl, fun k x hk => ?_⟩
  obtain ⟨g, rfl, _, hg, hx, _⟩ := hc k x hk
  exact ⟨g, 0, rfl, hg, by rw [Nat.zero_add]; exact hx⟩
theorem wf_tgl {T : Tab} (hp : ∀ p ∈ T.pairs, (Lit.int .i32 p.r).wf = true) : ∀ l : List Int, Wf32 l → Wf32 (tgl T l).out := SM.S_ind (fun _ => by intro x hx; simp [tgl, tg0] at hx) fun l r ih h => by
  have hl : Wf32 l := fun x hx => h x (List.mem_append.2 (.inl hx))
  have hr := h r (by simp)
  have h0 := ih hl
  rw [tgl_snoc]
  have hpush : ∀ c, Wf32 (push (tgl T l) r c).out := fun c x hx => by
    simp only [push, List.mem_append, List.mem_singleton] at hx
    rcases hx with hx | rfl
    · exact h0 x hx
    · exact hr
  unfold tstep
  split
  · split
    · rename_i x hb
      intro y hy
      rcases List.mem_or_eq_of_mem_set hy with hy | rfl
      · exact h0 y hy
      · exact wf_both hp hb
    · exact hpush _
  · exact hpush _
/-- the pairs' runes are int32 -/
def PairWf (T : Tab) : Prop := ∀ p ∈ T.pairs, (Lit.int .i32 p.r).wf = true ∧ (Lit.int .i32 p.a).wf = true ∧ (Lit.int .i32 p.b).wf = true
set_option maxRecDepth 20000 in
set_option maxHeartbeats 4000000 in
theorem together_is (q : TQ) (v : Value) (l : List Int) (L : List Int) (hL : tog q.T l = L) (w : World) (hv : RunesAt w v l) (hl : Wf32 l) (hlen : (l.length + 1) * 4 ≤ 140737488355328) (hT : TabAt w q) (hf : Fit q.T) (hp : PairWf q.T) :
    Calls Tryz.prog 18 #[q.v, v] w fun e w' => ∃ v', e = .returned v' ∧ Own w' w.heap.size v' L ∧ Below w.heap.size w w' := by
  obtain ⟨p, cap, rfl, hc⟩ := hv
  have HC := Lib.hid hc
  have HT := Lib.hid (And.intro hT (And.intro hf hp))
  have HW := Lib.hid hl
  have HL := Lib.hid hL
  clear hc hT hf hp hl hL
  unfold TQ.v
  go_enter Tryz.func18, Tryz.ntmps18
  go_wp2
  have hG := Has.new (w.alloc (.cells q.cs 28)) (.cells (GC q (.slice none 0 0) (-1) 0) 62)
  rw [World.size_alloc] at hG
  have HG0 := Lib.hid hG
  have HB0 := Lib.hid ((bnew w (.cells q.cs 28)).alloc (by simp) (.cells (GC q (.slice none 0 0) (-1) 0) 62))
  clear hG
  go_loopw [12] (fun kv wr => ∃ (k : Nat) (outv : Value), kv = .int .i64 k ∧ k ≤ l.length ∧ Hid (Has wr (w.heap.size + 1) (.cells (GC q outv (tgl q.T (l.take k)).st (tgl q.T (l.take k)).last) 62)) ∧ Hid (Own wr w.heap.size outv (tgl q.T (l.take k)).out) ∧ Below w.heap.size w wr) (fun k _ => l.length - (intOf k).toNat)
  case atStart => exact ⟨0, .slice none 0 0, rfl, Nat.zero_le _, HG0, Lib.hid (World.ownsRow_nil _ _ _ _), HB0.out⟩
  case round =>
    obtain ⟨k, outv, rfl, hk, HG, HO, hB⟩ := hrel
    have HB := Lib.hid hB
    by_cases hlt : k < l.length
    · obtain ⟨r, hr⟩ : ∃ r, l[k]? = some r := ⟨_, List.getElem?_eq_getElem hlt⟩
      obtain ⟨g, o, rfl, hg, hx⟩ := HC.out k r hr
      have c0 := (hB.cell (p := ⟨g, o + k, none⟩) hg).trans hx
      have HR := Lib.hid hr
      clear hx hB hr
      have HST : Hid (tstep q.T ⟨(tgl q.T (l.take k)).out, (tgl q.T (l.take k)).st, (tgl q.T (l.take k)).last⟩ r = tgl q.T (l.take (k + 1))) := Lib.hid (by
        rw [take_snoc l k hlt, tgl_snoc]
        have : l[k] = r := by have := HR.out; rw [List.getElem?_eq_getElem hlt] at this; exact Option.some.inj this
        rw [this])
      have hkl : (tgl q.T (l.take k)).out.length ≤ k := by
        have := tgl_len q.T (l.take k)
        rw [List.length_take] at this; omega
      have hso := tgl_ok q.T (l.take k)
      have HWT : Hid (Wf32 (tgl q.T (l.take k)).out) := Lib.hid (wf_tgl (fun p hp => (HT.out.2.2 p hp).1) _ (fun x hx => HW.out x (List.mem_of_mem_take hx)))
      have HSO := Lib.hid (And.intro hkl hso)
      clear hkl hso
      go_wp2_with fail
      refine (put33 (w.heap.size + 1) q outv _ _ _ r (HW.out r (List.mem_of_getElem? HR.out)) HWT.out (by have := HSO.out.1; omega) HSO.out.2 w _ HT.out.2.1 HT.out.1 HB.out (by omega) HG.out HO.out _ HST.out).mono ?_
      rintro e w1 ⟨rfl, outv', hG1, hO1, hB1⟩
      have HG1 := Lib.hid hG1
      have HO1 := Lib.hid hO1
      have HB1 := Lib.hid hB1
      clear hG1 hO1 hB1
      go_wp2
      go_roundw
      case rel => exact ⟨k + 1, outv', by go_num, by omega, HG1, HO1, HB1.out⟩
      case measure => simp [intOf]; omega
    · have hk2 : k = l.length := by omega
      have n5 : wr.cell? ⟨w.heap.size + 1, 5, none⟩ = some outv := HG.out.cell 5 rfl
      have HK := Lib.hid hk2
      clear hk2 hB
      obtain ⟨po, co, rfl, _⟩ := HO.out.form
      go_wp2
      go_ret
      refine ⟨_, rfl, ?_, HB.out⟩
      have := HO.out
      rw [HK.out, List.take_length] at this
      rw [← HL.out]
      rw [HK.out, List.take_length]
      exact this
end Go.Proofs.YtbclodbneonipaaGreat
