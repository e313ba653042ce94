/-
  The document's Ordered (nfc).
-/
import Derived.Test.YtbclodbneonipaaGreatNA2M
import Derived.Test.YtbclodbneonipaaGreatNS1M
import Derived.BigRegion
namespace Go.Proofs.YtbclodbneonipaaGreat
open Go.RowKit N
theorem Own.len {w : World} {B n c : Nat} {p : Option Addr} {l : List Int} (h : Own w B (.slice p n c) l) : l.length = n := by
  obtain ⟨p2, c2, e, _⟩ := h.form
  simp only [Value.slice.injEq] at e
  exact e.2.1.symm
/-- a cell of one's own memory -/
theorem Own.cell {w : World} {B n c go : Nat} {l : List Int} (h : Own w B (.slice (some ⟨go, 0, none⟩) n c) l) {i : Nat} {x : Int} (hi : l[i]? = some x) : w.cell? ⟨go, i, none⟩ = some (.int .i32 x) := by
  obtain ⟨p2, c2, e, hc⟩ := h.form
  simp only [Value.slice.injEq] at e
  obtain ⟨g, hg, _, _, hcell, _⟩ := hc i x hi
  rw [hg] at e
  simp only [Option.some.injEq, Addr.mk.injEq, and_true] at e
  rw [← e.1] at hcell
  exact hcell
theorem Own.far {w : World} {B n c go : Nat} {l : List Int} (h : Own w B (.slice (some ⟨go, 0, none⟩) n c) l) (hl : 0 < l.length) : B ≤ go ∧ go < w.heap.size := by
  obtain ⟨p2, c2, e, hc⟩ := h.form
  simp only [Value.slice.injEq] at e
  obtain ⟨g, hg, h1, h2, _, _⟩ := hc 0 l[0] (List.getElem?_eq_getElem hl)
  rw [hg] at e
  simp only [Option.some.injEq, Addr.mk.injEq, and_true] at e
  rw [e.1]; exact ⟨h1, h2⟩
theorem Own.put {w : World} {B n c go : Nat} {l : List Int} (h : Own w B (.slice (some ⟨go, 0, none⟩) n c) l) (i : Nat) (x : Int) : Own (w.setCell ⟨go, i, none⟩ (.int .i32 x)) B (.slice (some ⟨go, 0, none⟩) n c) (l.set i x) := by
  have hn := h.len
  subst hn
  have hst := (h.stored i (.int .i32 x)).1
  have e9 : (l.set i x).length = l.length := by simp
  have e8 : (l.set i x).map (Value.int .i32) = (l.map (Value.int .i32)).set i (.int .i32 x) := by rw [List.map_set]
  unfold Own
  rw [e9, e8]
  exact hst
theorem Own.frz {w : World} {B n c go : Nat} {l : List Int} (h : Own w B (.slice (some ⟨go, 0, none⟩) n c) l) (i : Nat) : w.frozen? ⟨go, i, none⟩ = false := by
  have hn := h.len
  subst hn
  exact h.frozenAt i
theorem own_len_eq {w : World} {B n c : Nat} {p : Option Addr} {l : List Int} (h : Own w B (.slice p n c) l) : Own w B (.slice p n c) l := h
theorem ord_one (f : Int → Int) (l : List Int) : ord f (l.take 1) ++ l.drop 1 = l := by
  cases l with
  | nil => rfl
  | cons a l =>
    show insT f [] a ++ l = a :: l
    unfold insT
    split <;> simp
theorem ord_step {f : Int → Int} {P A B : List Int} {r : Int} (hP : P = A ++ B) (hB : ∀ b ∈ B, f r < f b) (h0 : f r = 0 → B = []) (hA : f r = 0 ∨ ∀ a, A.getLast? = some a → f a ≤ f r) : insT f P r = A ++ r :: B := by
  rw [hP]
  by_cases h : f r = 0
  · rw [h0 h, ins_zero h, List.append_nil]
  · exact ins_at h A B hB (hA.resolve_left h)
theorem swap_mid (A B : List Int) (a r : Int) (k : Nat) (h : A.length = k) : (((A ++ [a]) ++ r :: B).set k r).set (k + 1) a = A ++ r :: a :: B := by
  subst h
  rw [List.append_assoc, List.set_append_right _ _ (Nat.le_refl _), Nat.sub_self, List.set_append_right _ _ (by omega)]
  simp

set_option maxRecDepth 20000 in
set_option maxHeartbeats 16000000 in
/-- the document's Ordered -/
theorem rordered_is (q : TQ) (v : Value) (l L : List Int) (hL : ord (N.cls q.T) l = L) (w : World) (hv : RunesAt w v l) (hnil : ∀ n c, v = .slice none n c → n = 0 ∧ c = 0) (hl : l.length * 4 ≤ 140737488355328) (hT : TabAt w q) (hf : Fit q.T) :
    Calls Tryz.prog 17 #[q.v, v] w fun e w' => ∃ v', e = .returned v' ∧ Own w' w.heap.size v' L ∧ Below w.heap.size w w' := by
  obtain ⟨p, cap, rfl, hc⟩ := id hv
  obtain ⟨i0, hi, hz0, hz1, hz2⟩ := info_parts infoRune
  obtain ⟨f, hfd⟩ : ∃ f, N.cls q.T = f := ⟨_, rfl⟩
  rw [hfd] at hL
  have HL := Lib.hid hL
  have HFD := Lib.hid hfd
  have HF := Lib.hid hf
  have HNIL := Lib.hid hnil
  obtain ⟨X, hX⟩ : ∃ X, w.alloc (.cells q.cs 28) = X := ⟨_, rfl⟩
  have HBX := Lib.hid (show Below w.heap.size w X from hX ▸ bnew w _)
  have HX := Lib.hid (show Has X w.heap.size (.cells q.cs 28) from hX ▸ Has.new w _)
  have HTX := Lib.hid (hT.below HBX.out)
  have HV := Lib.hid (hv.below (HBX.out.trans ((bnew X (.cells #[] 21)).mono HBX.out.size)))
  have HO0 := Lib.hid (own_lit0 X)
  have hs0 : X.heap.size ≤ (X.alloc (.cells #[] 21)).heap.size := (bnew X _).size
  have HB0 := Lib.hid (bnew X (.cells #[] 21))
  clear hL hc hv hnil hT hf hfd
  unfold TQ.cs at hX
  unfold TQ.v
  go_enter Tryz.func17, Tryz.ntmps17
  go_wp2_with (at_builtin; refine wpList_append_runes (by rfl) _ _ rfl X.heap.size i0 Tryz.underlying29 hi hz0 hz1 hz2 (.slice (some ⟨X.heap.size, 0, none⟩) 0 0) 0 [] rfl HO0.out (.slice p l.length cap) l rfl HV.out HNIL.out (by unfold maxLen; omega) (by omega) hs0 ?_; intro v3 w3 hown3 hgrow3; have HO3 : Hid (Own w3 X.heap.size v3 l) := Lib.hid (by have := own_app (l := []) hown3; rwa [List.nil_append] at this); have HB3 : Hid (Below X.heap.size X w3) := Lib.hid (bel_grown (v := .slice (some ⟨X.heap.size, 0, none⟩) 0 0) HB0.out HO0.out hgrow3 hs0); clear hown3 hgrow3 hX; obtain ⟨p3, c3, rfl, hform⟩ := HO3.out.form)
  obtain ⟨n, hn⟩ : ∃ n, l.length = n := ⟨_, rfl⟩
  have HFM := Lib.hid hform
  rw [hn] at HO3 hl ⊢
  have HN := Lib.hid hn
  clear hn hform HB0 HO0 HV
  go_loopw [6] (fun iv wr => ∃ (i : Nat) (M : List Int), 1 ≤ i ∧ i ≤ n + 1 ∧ iv = .int .i64 i ∧ Hid (M = ord f (l.take i) ++ l.drop i) ∧ Hid (Own wr X.heap.size (.slice p3 n c3) M) ∧ Hid (Below X.heap.size X wr)) (fun iv _ => n - (intOf iv).toNat)
  case atStart => exact ⟨1, l, by omega, by omega, rfl, Lib.hid (ord_one f l).symm, HO3, HB3⟩
  case round =>
    obtain ⟨i, M, hi1, hin, rfl, HM, HO, HB⟩ := hrel
    clear HO3 HB3
    rename World => wo
    have HBw := Lib.hid (HBX.out.trans (HB.out.mono HBX.out.size))
    have hMl := HO.out.len
    by_cases hlt : i < n
    · have i1 : (i : Int) < (n : Int) := by omega
      obtain ⟨go, hgo⟩ : ∃ go, p3 = some ⟨go, 0, none⟩ := by
        obtain ⟨g, h1, _⟩ := HFM.out 0 (l[0]'(by rw [HN.out]; omega)) (List.getElem?_eq_getElem _)
        exact ⟨g, h1⟩
      subst hgo
      obtain ⟨r, hr⟩ : ∃ r, l[i]? = some r := ⟨_, List.getElem?_eq_getElem (by rw [HN.out]; exact hlt)⟩
      obtain ⟨P, hP⟩ : ∃ P, ord f (l.take i) = P := ⟨_, rfl⟩
      obtain ⟨rest, hrest⟩ : ∃ rest, l.drop (i + 1) = rest := ⟨_, rfl⟩
      have hPl : P.length = i := by rw [← hP, ord_len, List.length_take, HN.out]; omega
      have hM2 : M = P ++ r :: rest := by
        obtain ⟨h1, h2⟩ := List.getElem?_eq_some_iff.1 hr
        rw [HM.out, hP, List.drop_eq_getElem_cons h1, h2, hrest]
      subst hM2
      have HNX := Lib.hid (show ord f (l.take (i + 1)) ++ l.drop (i + 1) = insT f P r ++ rest from by
        obtain ⟨h1, h2⟩ := List.getElem?_eq_some_iff.1 hr
        rw [take_snoc l i h1, ord_snoc, hP, hrest, h2])
      obtain ⟨hgB, hgs⟩ := HO.out.far (by rw [hMl]; omega)
      have HXr := Lib.hid (HX.out.to HB.out)
      have HTr := Lib.hid (HTX.out.below HB.out)
      obtain ⟨c, hcc⟩ : ∃ c, f r = c := ⟨_, rfl⟩
      have HCC := Lib.hid hcc
      have HCL := Lib.hid (fun (p : Later wo) => rclass_is q r c (by rw [HFD.out]; exact hcc) p.v (HTr.out.below p.h) HF.out)
      unfold TQ.v at HCL
      have zr : ∀ p : Later wo, p.v.cell? ⟨go, i, none⟩ = some (.int .i32 r) := fun p => (HO.out.to p.h).cell (by
        rw [List.getElem?_append_right (by omega), hPl, Nat.sub_self]; rfl)
      have z0 : ∀ p : Later wo, p.v.cell? ⟨w.heap.size, 0, none⟩ = some (.slice q.p0 q.T.spans.length q.c0) := fun p => (HXr.out.to p.h).cell 0 rfl
      have z1 : ∀ p : Later wo, p.v.cell? ⟨w.heap.size, 1, none⟩ = some (.slice q.p1 q.T.classes.length q.c1) := fun p => (HXr.out.to p.h).cell 1 rfl
      have z2 : ∀ p : Later wo, p.v.cell? ⟨w.heap.size, 2, none⟩ = some (.slice q.p2 q.T.pairs.length q.c2) := fun p => (HXr.out.to p.h).cell 2 rfl
      have z3 : ∀ p : Later wo, p.v.cell? ⟨w.heap.size, 3, none⟩ = some (.slice q.p3 q.T.ways.length q.c3) := fun p => (HXr.out.to p.h).cell 3 rfl
      have z4 : ∀ p : Later wo, p.v.cell? ⟨w.heap.size, 4, none⟩ = some (.slice q.p4 q.T.joins.length q.c4) := fun p => (HXr.out.to p.h).cell 4 rfl
      clear hr hcc hP hrest
      go_wp2_with fail
      refine wp_region_quiet_later (by kernel_rfl) (by kernel_rfl) ?_
      repeat (go_big_quiet_step (fail))
      go_big_quiet_step ((go_at_call 32; exact Calls.later_of (HCL.out _)))
      repeat (go_big_quiet_step (fail))
      refine wpQuiet_nil ?_
      rintro wa ⟨⟨_, hba⟩, rfl⟩
      have HBA := Lib.hid (HB.out.trans (hba.mono HB.out.size))
      have HOA := Lib.hid (HO.out.to hba)
      clear z0 z1 z2 z3 z4 zr hba HXr HTr HBw hMl
      go_wp2_with fail
      go_loopw [8] (fun kv wz => ∃ (k : Nat) (A B : List Int), k ≤ i ∧ kv = .int .i64 k ∧ A.length = k ∧ Hid (P = A ++ B ∧ (∀ b ∈ B, f r < f b) ∧ (f r = 0 → B = [])) ∧ Hid (Own wz X.heap.size (.slice (some ⟨go, 0, none⟩) n c3) (A ++ r :: (B ++ rest))) ∧ Hid (Below X.heap.size X wz)) (fun kv _ => (intOf kv).toNat)
      case atStart => exact ⟨i, P, [], by omega, rfl, hPl, Lib.hid ⟨by simp, fun b hb => (by cases hb), fun _ => rfl⟩, HOA, HBA⟩
      case round =>
        rename World => wz
        obtain ⟨k, A, B, hki, rfl, hAl, HAB, HOz, HBz⟩ := hrel
        clear HOA HBA
        have hMl := HOz.out.len
        obtain ⟨hgB2, hgs2⟩ := HOz.out.far (by rw [hMl]; omega)
        have HXz := Lib.hid (HX.out.to HBz.out)
        have HTz := Lib.hid (HTX.out.below HBz.out)
        go_upto_region 7 with fail
        go_cut [41] from 25 to 41 (fun sb wc => ∃ t : Bool, sb = .bool t ∧ Hid (TB t (∃ A' a, A = A' ++ [a] ∧ f r ≠ 0 ∧ f r < f a)) ∧ Hid (Below wz.heap.size wz wc))
        case first =>
          by_cases hk0 : k = 0
          · have k1 : ¬ (0 : Int) < (k : Int) := by omega
            have k2 : decide ((0 : Int) < (k : Int)) = false := decide_eq_false k1
            have k3 : decide (0 < k) = false := decide_eq_false (by omega)
            have HT := Lib.hid (TB.f (A := ∃ A' a, A = A' ++ [a] ∧ f r ≠ 0 ∧ f r < f a) (by
              rintro ⟨A', a, e, _⟩
              have : A = [] := List.eq_nil_of_length_eq_zero (by omega)
              rw [this] at e; cases A' <;> cases e))
            have HK0 := Lib.hid hk0
            clear hk0
            refine wp_region_quiet_later (by kernel_rfl) (by kernel_rfl) ?_
            repeat (go_big_quiet_step (fail))
            refine wpQuiet_nil ?_
            rintro _ ⟨p, rfl⟩
            go_wp2_with fail
            go_meet
            case rel => exact ⟨false, rfl, HT, Lib.hid p.h⟩
          · have k0 : 0 < k := by omega
            have k1 : (0 : Int) < (k : Int) := by omega
            have k2 : decide ((0 : Int) < (k : Int)) = true := decide_eq_true k1
            have k3 : decide (0 < k) = true := decide_eq_true k0
            obtain ⟨A', a, rfl⟩ : ∃ A' a, A = A' ++ [a] := by
              rcases List.eq_nil_or_concat A with h | ⟨A', a, h⟩
              · rw [h] at hAl; simp at hAl; omega
              · exact ⟨A', a, by rw [h, List.concat_eq_append]⟩
            have hinj : ∀ A2 a2, A' ++ [a] = A2 ++ [a2] → a = a2 := fun A2 a2 e => by
              have := List.append_inj' e rfl
              simpa using this.2
            by_cases hc0 : c = 0
            · have c1 : (c != 0) = false := by simp [hc0]
              have c2 : (c == 0) = true := by simp [hc0]
              have HT := Lib.hid (TB.f (A := ∃ A2 a2, A' ++ [a] = A2 ++ [a2] ∧ f r ≠ 0 ∧ f r < f a2) (by
                rintro ⟨A2, a2, e, h0, _⟩
                exact h0 (HCC.out.trans hc0)))
              have HC0 := Lib.hid hc0
              clear hc0 hk0 hinj
              refine wp_region_quiet_later (by kernel_rfl) (by kernel_rfl) ?_
              repeat (go_big_quiet_step (fail))
              refine wpQuiet_nil ?_
              rintro _ ⟨p, rfl⟩
              go_wp2_with fail
              go_meet
              case rel => exact ⟨false, rfl, HT, Lib.hid p.h⟩
            · have c1 : (c != 0) = true := by simpa using hc0
              have c2 : (c == 0) = false := by simpa using hc0
              obtain ⟨kp, hkp⟩ : ∃ kp, k = kp + 1 := ⟨k - 1, by omega⟩
              have wk : IntKind.i64.wrap ((k : Int) - 1) = (kp : Int) := by rw [IntWalk.i64_in _ (by omega)]; omega
              have hkpn : kp < n := by omega
              have hA2 : A'.length = kp := by simp at hAl; omega
              obtain ⟨ca, hca⟩ : ∃ ca, f a = ca := ⟨_, rfl⟩
              have HCL2 := Lib.hid (fun (p : Later wz) => rclass_is q a ca (by rw [HFD.out]; exact hca) p.v (HTz.out.below p.h) HF.out)
              unfold TQ.v at HCL2
              have za : ∀ p : Later wz, p.v.cell? ⟨go, kp, none⟩ = some (.int .i32 a) := fun p => (HOz.out.to p.h).cell (by
                rw [List.getElem?_append_left (by simp; omega), List.getElem?_append_right (by omega), hA2, Nat.sub_self]; rfl)

              have z0 : ∀ p : Later wz, p.v.cell? ⟨w.heap.size, 0, none⟩ = some (.slice q.p0 q.T.spans.length q.c0) := fun p => (HXz.out.to p.h).cell 0 rfl
              have z1 : ∀ p : Later wz, p.v.cell? ⟨w.heap.size, 1, none⟩ = some (.slice q.p1 q.T.classes.length q.c1) := fun p => (HXz.out.to p.h).cell 1 rfl
              have z2 : ∀ p : Later wz, p.v.cell? ⟨w.heap.size, 2, none⟩ = some (.slice q.p2 q.T.pairs.length q.c2) := fun p => (HXz.out.to p.h).cell 2 rfl
              have z3 : ∀ p : Later wz, p.v.cell? ⟨w.heap.size, 3, none⟩ = some (.slice q.p3 q.T.ways.length q.c3) := fun p => (HXz.out.to p.h).cell 3 rfl
              have z4 : ∀ p : Later wz, p.v.cell? ⟨w.heap.size, 4, none⟩ = some (.slice q.p4 q.T.joins.length q.c4) := fun p => (HXz.out.to p.h).cell 4 rfl
              by_cases hlt2 : c < ca
              · have d1 : decide (c < ca) = true := decide_eq_true hlt2
                have HT := Lib.hid (TB.t (A := ∃ A2 a2, A' ++ [a] = A2 ++ [a2] ∧ f r ≠ 0 ∧ f r < f a2) ⟨A', a, rfl, by rw [HCC.out]; exact hc0, by rw [HCC.out, hca]; exact hlt2⟩)
                have HC0 := Lib.hid hc0
                clear hc0 hkp hA2 hca hk0 hinj hAl
                refine wp_region_quiet_later (by kernel_rfl) (by kernel_rfl) ?_
                repeat (go_big_quiet_step (fail))
                go_big_quiet_step ((go_at_call 32; exact Calls.later_of (HCL2.out _)))
                repeat (go_big_quiet_step (fail))
                refine wpQuiet_nil ?_
                rintro _ ⟨p, rfl⟩
                go_wp2_with fail
                go_meet
                case rel => exact ⟨true, rfl, HT, Lib.hid p.h⟩
              · have d1 : decide (c < ca) = false := decide_eq_false hlt2
                have HT := Lib.hid (TB.f (A := ∃ A2 a2, A' ++ [a] = A2 ++ [a2] ∧ f r ≠ 0 ∧ f r < f a2) (by
                  rintro ⟨A2, a2, e, _, h⟩
                  rw [← hinj A2 a2 e, HCC.out, hca] at h
                  exact hlt2 h))
                have HC0 := Lib.hid hc0
                clear hc0 hkp hA2 hca hk0 hinj hAl
                refine wp_region_quiet_later (by kernel_rfl) (by kernel_rfl) ?_
                repeat (go_big_quiet_step (fail))
                go_big_quiet_step ((go_at_call 32; exact Calls.later_of (HCL2.out _)))
                repeat (go_big_quiet_step (fail))
                refine wpQuiet_nil ?_
                rintro _ ⟨p, rfl⟩
                go_wp2_with fail
                go_meet
                case rel => exact ⟨false, rfl, HT, Lib.hid p.h⟩
        case rest =>
        obtain ⟨t, rfl, HT, HBc⟩ := hcut
        have HBd := Lib.hid (HBz.out.trans (HBc.out.mono HBz.out.size))
        have HOc := Lib.hid (HOz.out.to HBc.out)
        have hgc : go < wc.heap.size := Nat.lt_of_lt_of_le hgs2 HBc.out.size
        clear HXz HTz HCL
        cases t with
        | false =>
          have HI := Lib.hid (show insT f P r = A ++ r :: B from ord_step HAB.out.1 HAB.out.2.1 HAB.out.2.2 (by
            by_cases h0 : f r = 0
            · exact .inl h0
            · refine .inr fun a ha => ?_
              refine Int.not_lt.1 fun hlt9 => HT.out.no ?_
              obtain ⟨A', e⟩ := List.getLast?_eq_some_iff.1 ha
              exact ⟨A', a, e, h0, hlt9⟩))
          go_wp2_with fail
          go_roundw
          case rel => exact ⟨i + 1, A ++ r :: (B ++ rest), by omega, by omega, by go_num, Lib.hid (by rw [HNX.out, HI.out]; simp), HOc, HBd⟩
          case measure => simp [intOf]; omega
        | true =>
          obtain ⟨A', a, rfl, hc0, hlt2⟩ := HT.out.yes
          obtain ⟨kp, hkp⟩ : ∃ kp, k = kp + 1 := ⟨k - 1, by simp at hAl; omega⟩
          have hA2 : A'.length = kp := by simp at hAl; omega
          subst hkp
          have wk : IntKind.i64.wrap (((kp + 1 : Nat) : Int) - 1) = (kp : Int) := by rw [IntWalk.i64_in _ (by omega)]; omega
          have hkpn : kp < n := by omega
          have hkpn1 : kp + 1 < n := by omega
          have la : wc.cell? ⟨go, kp, none⟩ = some (.int .i32 a) := HOc.out.cell (by
            rw [List.getElem?_append_left (by simp; omega), List.getElem?_append_right (by omega), hA2, Nat.sub_self]; rfl)
          have lr : wc.cell? ⟨go, kp + 1, none⟩ = some (.int .i32 r) := HOc.out.cell (by
            rw [List.getElem?_append_right (by simp; omega)]
            simp [hA2])
          have fa := HOc.out.frz kp
          have fr := HOc.out.frz (kp + 1)
          have HSW := Lib.hid (show Own ((wc.setCell ⟨go, kp, none⟩ (.int .i32 r)).setCell ⟨go, kp + 1, none⟩ (.int .i32 a)) X.heap.size (.slice (some ⟨go, 0, none⟩) n c3) (A' ++ r :: ((a :: B) ++ rest)) from by
            have h := (HOc.out.put kp r).put (kp + 1) a
            rw [swap_mid A' (B ++ rest) a r kp hA2] at h
            exact h)
          have HBS := Lib.hid ((HBd.out.setCell (p := ⟨go, kp, none⟩) hgB2 (.int .i32 r)).setCell (p := ⟨go, kp + 1, none⟩) hgB2 (.int .i32 a))
          have HNB := Lib.hid (show P = A' ++ (a :: B) ∧ (∀ b ∈ a :: B, f r < f b) ∧ (f r = 0 → a :: B = []) from ⟨by rw [HAB.out.1]; simp, fun b hb => by
            rcases List.mem_cons.1 hb with rfl | hb
            · exact hlt2
            · exact HAB.out.2.1 b hb, fun h => absurd h hc0⟩)
          have HK2 := Lib.hid (And.intro hA2 hki)
          clear hA2 hAl hlt2 hc0
          go_wp2_with fail
          go_region
          all_goals go_wp2
          refine ⟨⟨kp, A', a :: B, ?_, rfl, HK2.out.1, HNB, Lib.hid (HSW.out.to (Below.refl _ _).drew), Lib.hid HBS.out.drew⟩, ?_⟩
          · have := HK2.out.2; omega
          · simp [intOf]

    · have HZ := Lib.hid (show M = L from by
        rw [HM.out, List.take_of_length_le (by rw [HN.out]; omega), List.drop_eq_nil_of_le (by rw [HN.out]; omega), List.append_nil, HL.out])
      go_wp2_with fail
      go_ret
      exact ⟨_, rfl, by rw [← HZ.out, ]; exact own_base HBX.out.size (by have h := HO.out; exact own_len_eq h), HBw.out⟩
end Go.Proofs.YtbclodbneonipaaGreat
