import Derived.Test.YtflddokngplgiaaDoorA13M
import Derived.IntWalk
namespace Go.Proofs.YtflddokngplgiaaDoor
open Go.RowKit
/-- a world behind w: what lay in w lies there still -/
structure Later (w : World) where
  v : World
  h : Below w.heap.size w v
instance laterInh (w : World) : Inhabited (Later w) := ⟨⟨w, Below.refl _ w⟩⟩
theorem wp_region_quiet_later {P : Program} {id : Nat} {Q : Exit → Act → World → Prop} {a : Act} {w : World} {l : List Oper} (hm : P.follows .mixedOrders = true) (hB : Region.lexB .any l.toArray = true)
    (h : wpQuiet P l.toArray (fun w' => ∃ p : Later w, w' = p.v) (fun a' => ∀ w', (∃ p : Later w, w' = p.v) → Q .normal a' w') l a) : (Code.region id l.toArray true).wp P Q a w :=
  wp_region_quiet (C := fun w' => ∃ p : Later w, w' = p.v) hm hB ⟨⟨w.drew, (Below.refl _ w).drew⟩, rfl⟩ (by simpa using h)
theorem Calls.later_of {P : Program} {f : FuncId} {args : Array Value} {w : World} {p : Later w} {v : Value}
    (h : Calls P f args p.v fun e w' => e = .returned v ∧ Below p.v.heap.size p.v w') : Calls P f args p.v fun e w'' => e = .returned v ∧ ∃ q : Later w, w'' = q.v :=
  h.mono fun _ _ ⟨he, hb⟩ => ⟨he, ⟨_, p.h.trans (hb.mono p.h.size)⟩, rfl⟩
theorem Later.c {w : World} (p : Later w) {g i : Nat} {v : Value} (h : w.cell? ⟨g, i, none⟩ = some v) (hg : g < w.heap.size) : p.v.cell? ⟨g, i, none⟩ = some v := (p.h.cell (p := ⟨g, i, none⟩) hg).trans h
theorem qload {P : Program} {ops : Array Oper} {C : World → Prop} {Q : Act → Prop} {a : Act} {o : Oper} {rest : List Oper} (hw : Region.wanted o (yielded ops a.tmps) = true) (ty : TypeId) (x : Operand) (ho : o.op = .load ty x)
    (g : Nat) (hx : a.eval x = .pointer (some ⟨g, 0, none⟩)) (t : TypeId) (cs : Array Value) (d : TypeDesc) (hS : ∀ w, C w → w.heap[g]? = some (.cells cs t (0, 0)))
    (hu : P.underlying ty = some d) (hd : (match d with | .struct _ | .array _ _ => true | _ => false) = true) (hi : (P.info? ty).map (·.size) = some cs.size)
    (h : wpQuiet P ops C Q rest (a.put o.dst (.agg cs))) : wpQuiet P ops C Q (o :: rest) a :=
  BigFrame.wpQuiet_want hw fun K hK => ⟨.agg cs, fun w hC => by
    unfold Oper.quietAt execOp
    simp only [ho, hx, Instr.loadAt, Instr.sureAddr, Sem.run_bind, Sem.run_pure, Result.andThen_ok, run_loadVar_row w g t ty cs (0, 0) d (hS w hC) hu hd hi]
    exact ⟨rfl, rfl⟩, hK _ h⟩
def candB (l : List Nat) (s f : Nat) : Bool := decide (wo l f (f + s) = l)
/-- the longest run of noughts: where it begins and ends -/
def lng (l : List Nat) : Nat → Nat × Nat
  | 0 => (0, 0)
  | s + 1 => if s = 0 then (0, 0) else match (List.range (8 - (s + 1) + 1)).find? (candB l (s + 1)) with
    | some f => (f, f + (s + 1))
    | none => lng l s
theorem find_range_some {p : Nat → Bool} {n f : Nat} (hf : f < n) (hp : p f = true) (hb : ∀ i, i < f → p i = false) : (List.range n).find? p = some f := by
  rw [List.find?_range_eq_some]
  exact ⟨hp, by simpa using hf, fun j hj => by rw [hb j hj]; rfl⟩
theorem find_range_none {p : Nat → Bool} {n : Nat} (hb : ∀ i, i < n → p i = false) : (List.range n).find? p = none := by
  rw [List.find?_range_eq_none]
  intro i hi
  rw [hb i hi]; rfl
theorem lng_hit {l : List Nat} {s f : Nat} (hs : 2 ≤ s) (hf : f < 8 - s + 1) (hp : candB l s f = true) (hb : ∀ i, i < f → candB l s i = false) : lng l s = (f, f + s) := by
  obtain ⟨s, rfl⟩ : ∃ k, s = k + 1 := ⟨s - 1, by omega⟩
  rw [lng, if_neg (by omega), find_range_some hf hp hb]
theorem lng_miss {l : List Nat} {s : Nat} (hs : 2 ≤ s) (hb : ∀ i, i < 8 - s + 1 → candB l s i = false) : lng l s = lng l (s - 1) := by
  obtain ⟨s, rfl⟩ : ∃ k, s = k + 1 := ⟨s - 1, by omega⟩
  rw [lng, if_neg (by omega), find_range_none hb]; rfl
theorem lng_one (l : List Nat) : lng l 1 = (0, 0) := rfl
theorem ret_ii {a b c d : Int} (h : a = b) (k : c = d) : Ending.returned (.tuple #[.int .i64 a, .int .i64 c]) = .returned (.tuple #[.int .i64 b, .int .i64 d]) := by rw [h, k]
theorem wo_lt {l : List Nat} {f t : Nat} (h : ∀ x ∈ l, x < 65536) : ∀ x ∈ wo l f t, x < 65536 := by
  intro x hx
  unfold wo at hx
  rcases List.mem_append.1 hx with hx | hx
  · rcases List.mem_append.1 hx with hx | hx
    · exact h x (List.mem_of_mem_take hx)
    · rw [List.eq_of_mem_replicate hx]; omega
  · exact h x (List.mem_of_mem_drop hx)
set_option maxHeartbeats 8000000 in
set_option maxRecDepth 100000 in
theorem longest_is (l : List Nat) (hl : l.length = 8) (bl : ∀ x ∈ l, x < 65536) (w : World) :
    Calls Tryd.prog 34 #[.agg (A8 l)] w fun e w' => e = .returned (.tuple #[.int .i64 (lng l 8).1, .int .i64 (lng l 8).2]) ∧ Below w.heap.size w w' := by
  obtain ⟨x0, x1, x2, x3, x4, x5, x6, x7, hl8⟩ := eight hl
  have h0 : Has (w.alloc (.cells (A8 l) 27)) w.heap.size (.cells (A8 l) 27) := Has.new w _
  have HH := Lib.hid h0
  have HL := Lib.hid hl
  have HBL := Lib.hid bl
  have HL8 := Lib.hid hl8
  have hm0 : Tryd.prog.follows .mixedOrders = true := by kernel_rfl
  clear h0 hl bl hl8
  go_enter Tryd.func34, Tryd.ntmps34
  go_wp2_with fail
  go_loopw [4] (fun sv wr => ∃ s : Nat, sv = .int .i64 s ∧ 1 ≤ s ∧ s ≤ 8 ∧ Hid (lng l 8 = lng l s) ∧ Hid (Has wr w.heap.size (.cells (A8 l) 27)) ∧ Hid (Below w.heap.size w wr)) (fun s _ => (intOf s).toNat)
  case atStart => exact ⟨8, rfl, by omega, by omega, Lib.hid rfl, HH, Lib.hid (bnew _ _)⟩
  case round =>
    obtain ⟨s, rfl, hs1, hs8, HS, HHr, HBr⟩ := hrel
    by_cases hlt : 1 < s
    · have hd1 : decide ((1 : Int) < (s : Int)) = true := by rw [decide_eq_true_iff]; omega
      go_wp2_with fail
      obtain ⟨w0, rfl⟩ : ∃ w0, w0 = wr := ⟨_, rfl⟩
      go_loopw [13] (fun fv wr => ∃ f : Nat, fv = .int .i64 f ∧ f ≤ 8 - s + 1 ∧ Hid (∀ i, i < f → candB l s i = false) ∧ Hid (Has wr w.heap.size (.cells (A8 l) 27)) ∧ Hid (Below w.heap.size w wr)) (fun f _ => 9 - (intOf f).toNat)
      case atStart => exact ⟨0, rfl, by omega, Lib.hid (fun i h => by omega), HHr, HBr⟩
      case round =>
        obtain ⟨f, rfl, hf, HF, HH2, HB2⟩ := hrel
        by_cases hfl : f < 8 - s + 1
        · have hi : (f : Int) < 8 - (s : Int) + 1 := by omega
          have hi2 : (f : Int) + (s : Int) ≤ 8 := by omega
          have kf : IntKind.i64.wrap ((f : Int) + (s : Int)) = (f : Int) + (s : Int) := IntWalk.i64_in _ (by omega)
          have HW := Lib.hid (fun W => without_is l f (f + s) HL.out (by omega) (by omega) W)
          have HEQ := Lib.hid (fun W => eq8 (wo l f (f + s)) l (wo_len HL.out (by omega) (by omega)) HL.out (wo_lt HBL.out) HBL.out W)
          have kl : ∀ p : Later wr, Has p.v w.heap.size (.cells (A8 l) 27) := fun p => HH2.out.to p.h
          go_wp2_with fail
          have hle27 : (Tryd.prog.info? 27).map (·.size) = some (A8 l).size := by rw [A8_size, HL.out]; exact info27
          have KL := Lib.hid kl
          have HLE := Lib.hid hle27
          have keq := HEQ.out
          clear kl hle27
          refine wp_region_quiet_later hm0 (by kernel_rfl) ?_
          refine qload (by rfl) 27 (.tmp 1) rfl w.heap.size rfl 27 (A8 l) _ (fun w' ⟨p, e⟩ => e ▸ KL.out p) Tryd.underlying27 rfl HLE.out ?_
          quiet_step (fail)
          quiet_step (fail)
          quiet_step (fail)
          quiet_step (fail)
          quiet_step ((go_at_call 49; exact Calls.later_of (HW.out _)))
          refine qload (by rfl) 27 (.tmp 1) rfl w.heap.size rfl 27 (A8 l) _ (fun w' ⟨p, e⟩ => e ▸ KL.out p) Tryd.underlying27 rfl HLE.out ?_
          quiet_step (fail)
          refine wpQuiet_nil ?_
          rintro _ ⟨p, rfl⟩
          have HB3 := Lib.hid (HB2.out.trans (p.h.mono HB2.out.size))
          have HH3 := Lib.hid (KL.out p)
          clear keq
          by_cases hc : wo l f (f + s) = l
          · have HC := Lib.hid (lng_hit (l := l) (s := s) (f := f) (by omega) hfl (by unfold candB; simpa using hc) HF.out)
            rw [decide_eq_true hc]
            clear hc
            go_wp2_with fail
            go_ret2
            exact ⟨ret_ii (by rw [HS.out, HC.out]) (by rw [HS.out, HC.out]; simp), HB3.out⟩
          · have HC := Lib.hid (show ∀ i, i < f + 1 → candB l s i = false from fun i hi => by
              by_cases e : i = f
              · subst e; unfold candB; simpa using hc
              · exact HF.out i (by omega))
            rw [decide_eq_false hc]
            clear hc
            go_wp2_with fail
            go_roundw
            case rel => exact ⟨f + 1, by go_num, by omega, HC, HH3, HB3⟩
            case measure => simp [intOf]; omega
        · have hi : decide ((f : Int) < 8 - (s : Int) + 1) = false := by rw [decide_eq_false_iff_not]; omega
          go_wp2_with fail
          go_roundw
          case rel => exact ⟨s - 1, by go_num, by omega, by omega, Lib.hid (by rw [HS.out]; exact lng_miss (by omega) (fun i h => HF.out i (by omega))), HH2, HB2⟩
          case measure => simp [intOf]; omega
    · obtain rfl : s = 1 := by omega
      go_wp2_with fail
      go_ret2
      exact ⟨ret_ii (by rw [HS.out]; rfl) (by rw [HS.out]; rfl), HBr.out⟩
end Go.Proofs.YtflddokngplgiaaDoor
namespace Go.Proofs.YtflddokngplgiaaDoor
open Go.RowKit
theorem lng_cases (l : List Nat) : ∀ s, s ≤ 8 → lng l s = (0, 0) ∨ ∃ f k, 2 ≤ k ∧ k ≤ s ∧ f + k ≤ 8 ∧ lng l s = (f, f + k) ∧ wo l f (f + k) = l ∧ (∀ i, i < f → ¬ wo l i (i + k) = l) ∧ ∀ k', k < k' → k' ≤ s → ∀ i, i + k' ≤ 8 → ¬ wo l i (i + k') = l
  | 0, _ => .inl rfl
  | s + 1, h => by
    by_cases h0 : s = 0
    · subst h0; exact .inl rfl
    rcases hq : (List.range (8 - (s + 1) + 1)).find? (candB l (s + 1)) with _ | f
    · have hn : ∀ i, i + (s + 1) ≤ 8 → ¬ wo l i (i + (s + 1)) = l := by
        intro i hi e
        rw [List.find?_range_eq_none] at hq
        have := hq i (by omega)
        unfold candB at this
        rw [decide_eq_true e] at this
        exact absurd this (by decide)
      have e : lng l (s + 1) = lng l s := by rw [lng, if_neg h0, hq]
      rw [e]
      rcases lng_cases l s (by omega) with h1 | ⟨f, k, a, b, c, d, e1, e2, e3⟩
      · exact .inl h1
      · exact .inr ⟨f, k, a, by omega, c, d, e1, e2, fun k' h1 h2 i hi => by
          by_cases h3 : k' = s + 1
          · subst h3; exact hn i hi
          · exact e3 k' h1 (by omega) i hi⟩
    · rw [List.find?_range_eq_some] at hq
      obtain ⟨h1, h2, h3⟩ := hq
      have e : lng l (s + 1) = (f, f + (s + 1)) := lng_hit (by omega) (by simpa using h2) h1 (fun i hi => by simpa using h3 i hi)
      refine .inr ⟨f, s + 1, by omega, Nat.le_refl _, by simp at h2; omega, e, by unfold candB at h1; simpa using h1, fun i hi => by have := h3 i hi; unfold candB at this; simpa using this, fun k' h1 h2 => by omega⟩
def tv6 (l : List Nat) : List UInt8 := if (lng l 8).1 = (lng l 8).2 then txtP l else txtP (l.take (lng l 8).1) ++ [58, 58] ++ txtP (l.drop (lng l 8).2)
theorem at_part {W : World} {g a b : Nat} {l : List Nat} (h : Has W g (.cells (A8 l) 27)) (hl : l.length = 8) (hab : a ≤ b) (hb : b ≤ 8) : U16At W (arrS g a b) ((l.take b).drop a) := by
  have hlen : ((l.take b).drop a).length = b - a := by simp; omega
  refine ⟨some ⟨g, if 8 = a then 0 else a, none⟩, 8 - a, by unfold arrS; rw [hlen], fun k x hk => ?_⟩
  have hkl : k < b - a := by have := (List.getElem?_eq_some_iff.1 hk).1; omega
  refine ⟨g, _, rfl, h.lt, ?_⟩
  rw [if_neg (by omega)]
  refine h.cell (a + k) ?_
  rw [List.getElem?_drop, List.getElem?_take, if_pos (by omega)] at hk
  simp [A8, hk]
theorem toNat_idx (s : ByteArray) : s = ⟨s.data⟩ := rfl
set_option maxHeartbeats 8000000 in
set_option maxRecDepth 100000 in
theorem textV6_whole (l : List Nat) (hl : l.length = 8) (bl : ∀ x ∈ l, x < 65536) (w : World) (hG : Glob w) (h0 : lng l 8 = (0, 0)) :
    Calls Tryd.prog 19 #[.agg (A8 l)] w fun e w' => e = .returned (.string ⟨(tv6 l).toArray⟩) ∧ Below w.heap.size w w' := by
  have HE := Lib.hid (show tv6 l = txtP l from if_pos (by rw [h0]))
  have HC := Lib.hid (fun W => longest_is l hl bl W)
  have HH := Lib.hid (Has.new w (.cells (A8 l) 27))
  have hle27 : (Tryd.prog.info? 27).map (·.size) = some (A8 l).size := by rw [A8_size, hl]; exact info27
  have HLE := Lib.hid hle27
  have HL := Lib.hid hl
  have HB := Lib.hid bl
  have HG := Lib.hid hG
  have H0 := Lib.hid h0
  have ks := slice8_all w.heap.size
  clear h0 hG bl hl hle27
  go_enter Tryd.func19, Tryd.ntmps19
  go_wp2_with (refine wpList_load_row (by rfl) 27 (.tmp 1) rfl w.heap.size rfl 27 (A8 l) (0, 0) _ HH.out Tryd.underlying27 rfl HLE.out ?_)
  refine (HC.out _).mono ?_
  rintro e w1 ⟨rfl, hb⟩
  rw [H0.out]
  have HB1 := Lib.hid hb
  clear hb
  go_wp2_with fail
  refine (written_is _ l (by rw [HL.out]; omega) HB.out _ (HG.out.to (bel2 (bnew _ _) HB1.out)) ?_).mono ?_
  · have := at_part (a := 0) (b := 8) (HH.out.to HB1.out) HL.out (by omega) (by omega)
    rwa [List.drop_zero, List.take_of_length_le (by rw [HL.out]; omega)] at this
  rintro e w2 ⟨rfl, hb⟩
  have HB2 := Lib.hid (bel2 (bel2 (bnew _ _) HB1.out) hb)
  clear hb
  go_wp2_with fail
  go_ret
  exact ⟨by rw [HE.out]; rfl, HB2.out⟩
set_option maxHeartbeats 8000000 in
set_option maxRecDepth 100000 in
theorem textV6_short (l : List Nat) (hl : l.length = 8) (bl : ∀ x ∈ l, x < 65536) (w : World) (hG : Glob w) (f t : Nat) (h0 : lng l 8 = (f, t)) (hft : f < t) (ht : t ≤ 8) :
    Calls Tryd.prog 19 #[.agg (A8 l)] w fun e w' => e = .returned (.string ⟨(tv6 l).toArray⟩) ∧ Below w.heap.size w w' := by
  have HE := Lib.hid (show tv6 l = txtP (l.take f) ++ [58, 58] ++ txtP (l.drop t) by unfold tv6; rw [h0]; exact if_neg (by simp; omega))
  have HC := Lib.hid (fun W => longest_is l hl bl W)
  have HH := Lib.hid (Has.new w (.cells (A8 l) 27))
  have hle27 : (Tryd.prog.info? 27).map (·.size) = some (A8 l).size := by rw [A8_size, hl]; exact info27
  have HLE := Lib.hid hle27
  have HL := Lib.hid hl
  have HB := Lib.hid bl
  have HG := Lib.hid hG
  have H0 := Lib.hid h0
  have k1 := slice8_h w.heap.size f (by omega)
  have k2 := slice8_l w.heap.size t ht
  have hm0 : Tryd.prog.follows .mixedOrders = true := by kernel_rfl
  have hne : ((f : Int) == (t : Int)) = false := by rw [beq_eq_false_iff_ne]; omega
  clear h0 hG bl hl hle27
  go_enter Tryd.func19, Tryd.ntmps19
  go_wp2_with (refine wpList_load_row (by rfl) 27 (.tmp 1) rfl w.heap.size rfl 27 (A8 l) (0, 0) _ HH.out Tryd.underlying27 rfl HLE.out ?_)
  refine (HC.out _).mono ?_
  rintro e w1 ⟨rfl, hb⟩
  rw [H0.out]
  have HB1 := Lib.hid hb
  clear hb
  go_wp2_with fail
  have HP := Lib.hid (show ∀ p : Later w1, Has p.v w.heap.size (.cells (A8 l) 27) ∧ Glob p.v from fun p => ⟨(HH.out.to HB1.out).to p.h, (HG.out.to (bel2 (bnew _ _) HB1.out)).to p.h⟩)
  have HA := Lib.hid (show ∀ p : Later w1, Calls Tryd.prog 35 #[arrS w.heap.size 0 f] p.v fun e w' => e = .returned (.string ⟨(txtP (l.take f)).toArray⟩) ∧ Below p.v.heap.size p.v w' from fun p =>
    written_is _ (l.take f) (by simp; omega) (fun x hx => HB.out x (List.mem_of_mem_take hx)) _ (HP.out p).2 (by have := at_part (a := 0) (b := f) (HP.out p).1 HL.out (by omega) (by omega); rwa [List.drop_zero] at this))
  have HD := Lib.hid (show ∀ p : Later w1, Calls Tryd.prog 35 #[arrS w.heap.size t 8] p.v fun e w' => e = .returned (.string ⟨(txtP (l.drop t)).toArray⟩) ∧ Below p.v.heap.size p.v w' from fun p =>
    written_is _ (l.drop t) (by simp; have := HL.out; omega) (fun x hx => HB.out x (List.mem_of_mem_drop hx)) _ (HP.out p).2 (by have := at_part (a := t) (b := 8) (HP.out p).1 HL.out (by omega) (by omega); rwa [List.take_of_length_le (by rw [HL.out]; omega)] at this))
  have hq1 : ¬ 9223372036854775807 < (txtP (l.take f)).length + 2 := by have := txtP_len (l.take f) (fun x hx => HB.out x (List.mem_of_mem_take hx)); simp only [List.length_take, HL.out] at this; omega
  have hq2 : ¬ 9223372036854775807 < (txtP (l.take f)).length + 2 + (txtP (l.drop t)).length := by have := txtP_len (l.take f) (fun x hx => HB.out x (List.mem_of_mem_take hx)); have h2 := txtP_len (l.drop t) (fun x hx => HB.out x (List.mem_of_mem_drop hx)); simp only [List.length_take, List.length_drop, HL.out] at this h2; omega
  refine wp_region_quiet_later hm0 (by kernel_rfl) ?_
  quiet_step (fail)
  quiet_step (fail)
  quiet_step ((go_at_call 35; exact Calls.later_of (HA.out _)))
  quiet_step (fail)
  quiet_step (fail)
  quiet_step (fail)
  quiet_step ((go_at_call 35; exact Calls.later_of (HD.out _)))
  quiet_step (fail)
  quiet_step (fail)
  refine wpQuiet_nil ?_
  rintro _ ⟨p, rfl⟩
  have HB3 := Lib.hid (bel2 (bel2 (bnew _ _) HB1.out) p.h)
  go_wp2_with fail
  go_ret
  exact ⟨by rw [HE.out]; rfl, HB3.out⟩
theorem textV6_is (l : List Nat) (hl : l.length = 8) (bl : ∀ x ∈ l, x < 65536) (w : World) (hG : Glob w) :
    Calls Tryd.prog 19 #[.agg (A8 l)] w fun e w' => e = .returned (.string ⟨(tv6 l).toArray⟩) ∧ Below w.heap.size w w' := by
  rcases lng_cases l 8 (Nat.le_refl _) with h | ⟨f, k, h1, h2, h3, h4, _⟩
  · exact textV6_whole l hl bl w hG h
  · exact textV6_short l hl bl w hG f (f + k) h4 (by omega) h3
end Go.Proofs.YtflddokngplgiaaDoor
