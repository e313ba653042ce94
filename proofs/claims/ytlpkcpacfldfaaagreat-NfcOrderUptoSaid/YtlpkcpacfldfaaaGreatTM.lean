import Derived.Test.YtlpkcpacfldfaaaGreatTL
namespace Go.Proofs.YtlpkcpacfldfaaaGreat
open Go.RowKit N
theorem Own.at {w : World} {B : Nat} {v : Value} {l : List Int} (h : Own w B v l) : RunesAt w v l := by
  obtain ⟨p, cap, rfl, hc⟩ := h.form
  refine ⟨p, cap, rfl, fun k x hk => ?_⟩
  obtain ⟨g, rfl, _, hg, hx, _⟩ := hc k x hk
  exact ⟨g, 0, rfl, hg, by rw [Nat.zero_add]; exact hx⟩
theorem wf_tgl {T : Tab} (hp : ∀ p ∈ T.pairs, (Lit.int .i32 p.r).wf = true) : ∀ l : List Int, Wf32 l → Wf32 (tgl T l).out := SM.S_ind (fun _ => by intro x hx; simp [tgl, tg0] at hx) fun l r ih h => by
  have hl : Wf32 l := fun x hx => h x (List.mem_append.2 (.inl hx))
  have hr := h r (by simp)
  have h0 := ih hl
  rw [tgl_snoc]
  have hpush : ∀ c, Wf32 (push (tgl T l) r c).out := fun c x hx => by
    simp only [push, List.mem_append, List.mem_singleton] at hx
    rcases hx with hx | rfl
    · exact h0 x hx
    · exact hr
  unfold tstep
  split
  · split
    · rename_i x hb
      intro y hy
      rcases List.mem_or_eq_of_mem_set hy with hy | rfl
      · exact h0 y hy
      · exact wf_both hp hb
    · exact hpush _
  · exact hpush _
/-- the pairs' runes are int32 -/
def PairWf (T : Tab) : Prop := ∀ p ∈ T.pairs, (Lit.int .i32 p.r).wf = true ∧ (Lit.int .i32 p.a).wf = true ∧ (Lit.int .i32 p.b).wf = true
set_option maxRecDepth 20000 in
set_option maxHeartbeats 4000000 in
theorem together_is (q : TQ) (v : Value) (l : List Int) (L : List Int) (hL : tog q.T l = L) (w : World) (hv : RunesAt w v l) (hl : Wf32 l) (hlen : (l.length + 1) * 4 ≤ 140737488355328) (hT : TabAt w q) (hf : Fit q.T) (hp : PairWf q.T) :
    Calls Tryz.prog 25 #[q.v, v] w fun e w' => ∃ v', e = .returned v' ∧ Own w' w.heap.size v' L ∧ Below w.heap.size w w' := by
  obtain ⟨p, cap, rfl, hc⟩ := hv
  have HC := Lib.hid hc
  have HT := Lib.hid (And.intro hT (And.intro hf hp))
  have HW := Lib.hid hl
  have HL := Lib.hid hL
  clear hc hT hf hp hl hL
  unfold TQ.v
  go_enter Tryz.func25, Tryz.ntmps25
  go_wp2
  have hG := Has.new (w.alloc (.cells q.cs 28)) (.cells (GC q (.slice none 0 0) (-1) 0) 84)
  rw [World.size_alloc] at hG
  have HG0 := Lib.hid hG
  have HB0 := Lib.hid ((bnew w (.cells q.cs 28)).alloc (by simp) (.cells (GC q (.slice none 0 0) (-1) 0) 84))
  clear hG
  go_loopw [12] (fun kv wr => ∃ (k : Nat) (outv : Value), kv = .int .i64 k ∧ k ≤ l.length ∧ Hid (Has wr (w.heap.size + 1) (.cells (GC q outv (tgl q.T (l.take k)).st (tgl q.T (l.take k)).last) 84)) ∧ Hid (Own wr w.heap.size outv (tgl q.T (l.take k)).out) ∧ Below w.heap.size w wr) (fun k _ => l.length - (intOf k).toNat)
  case atStart => exact ⟨0, .slice none 0 0, rfl, Nat.zero_le _, HG0, Lib.hid (World.ownsRow_nil _ _ _ _), HB0.out⟩
  case round =>
    obtain ⟨k, outv, rfl, hk, HG, HO, hB⟩ := hrel
    have HB := Lib.hid hB
    by_cases hlt : k < l.length
    · obtain ⟨r, hr⟩ : ∃ r, l[k]? = some r := ⟨_, List.getElem?_eq_getElem hlt⟩
      obtain ⟨g, o, rfl, hg, hx⟩ := HC.out k r hr
      have c0 := (hB.cell (p := ⟨g, o + k, none⟩) hg).trans hx
      have HR := Lib.hid hr
      clear hx hB hr
      have HST : Hid (tstep q.T ⟨(tgl q.T (l.take k)).out, (tgl q.T (l.take k)).st, (tgl q.T (l.take k)).last⟩ r = tgl q.T (l.take (k + 1))) := Lib.hid (by
        rw [take_snoc l k hlt, tgl_snoc]
        have : l[k] = r := by have := HR.out; rw [List.getElem?_eq_getElem hlt] at this; exact Option.some.inj this
        rw [this])
      have hkl : (tgl q.T (l.take k)).out.length ≤ k := by
        have := tgl_len q.T (l.take k)
        rw [List.length_take] at this; omega
      have hso := tgl_ok q.T (l.take k)
      have HWT : Hid (Wf32 (tgl q.T (l.take k)).out) := Lib.hid (wf_tgl (fun p hp => (HT.out.2.2 p hp).1) _ (fun x hx => HW.out x (List.mem_of_mem_take hx)))
      have HSO := Lib.hid (And.intro hkl hso)
      clear hkl hso
      go_wp2_with fail
      refine (put33 (w.heap.size + 1) q outv _ _ _ r (HW.out r (List.mem_of_getElem? HR.out)) HWT.out (by have := HSO.out.1; omega) HSO.out.2 w _ HT.out.2.1 HT.out.1 HB.out (by omega) HG.out HO.out _ HST.out).mono ?_
      rintro e w1 ⟨rfl, outv', hG1, hO1, hB1⟩
      have HG1 := Lib.hid hG1
      have HO1 := Lib.hid hO1
      have HB1 := Lib.hid hB1
      clear hG1 hO1 hB1
      go_wp2
      go_roundw
      case rel => exact ⟨k + 1, outv', by go_num, by omega, HG1, HO1, HB1.out⟩
      case measure => simp [intOf]; omega
    · have hk2 : k = l.length := by omega
      have n5 : wr.cell? ⟨w.heap.size + 1, 5, none⟩ = some outv := HG.out.cell 5 rfl
      have HK := Lib.hid hk2
      clear hk2 hB
      obtain ⟨po, co, rfl, _⟩ := HO.out.form
      go_wp2
      go_ret
      refine ⟨_, rfl, ?_, HB.out⟩
      have := HO.out
      rw [HK.out, List.take_length] at this
      rw [← HL.out]
      rw [HK.out, List.take_length]
      exact this
end Go.Proofs.YtlpkcpacfldfaaaGreat
