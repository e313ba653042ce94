import Derived.Test.YtnjnhgeafbofkaaDoorHGM
import Derived.Test.YtnjnhgeafbofkaaDoorHBM
import Derived.Test.YtnjnhgeafbofkaaDoorTie
import Derived.Test.YtnjnhgeafbofkaaDoorCards
import Derived.Test.YtnjnhgeafbofkaaDoorF7M
import Derived.ProofKit
import Derived.OpenShut
import Derived.LaidMore
import Derived.Lay
import Derived.SevenTiedAt
import Derived.Stop.Joined
import Derived.HandedShaped
import Derived.ShutString
import Derived.SizedLaws
import Derived.ChangeOld
import Derived.ChangeSame
import Derived.Below
import Derived.Deep.Slices
import Derived.Deep.Fields
/-
  The walk of bastionlaw11.QueryChanges, within the bulk: it answers true, and changes nothing that was there.
-/
namespace Go.Proofs.YtnjnhgeafbofkaaDoor
open Go.RowKit
set_option maxHeartbeats 4000000 in
set_option maxRecDepth 100000 in
theorem QueryChanges_std (p : Option Addr) (l : List Fd) (cap : Nat) (hcap : l.length ≤ cap) (hl : l.length ≤ 1048576) (ht : ∀ x ∈ l, x.1.size ≤ 1048576 ∧ x.2.size ≤ 1048576) (hn : p = none → cap = 0) (nm : ByteArray) (hnm : nm.size ≤ 1048576) (va : ByteArray) (hva : va.size ≤ 1048576) (w : World) (hv : Lst w (.slice p l.length cap) l) (hM : ML w) :
    Calls Tryd.prog 4 #[.slice p l.length cap, .string nm, .string va] w fun e w' => e = .returned (.bool true) ∧ Below w.heap.size w w' := by
  obtain ⟨i0, hi, hz0, hz1, hz2⟩ := info_parts Ks.infoField
  obtain ⟨T, b, hT⟩ : ∃ T b, findT nm l = (T, b) := ⟨_, _, rfl⟩
  have hfit : Fit ((nm, va) :: l) := fun x hx => by
    rcases List.mem_cons.1 hx with rfl | hx
    · exact ⟨by show nm.size ≤ _; omega, by show va.size ≤ _; omega⟩
    · exact ⟨by have := (ht x hx).1; omega, by have := (ht x hx).2; omega⟩
  have hfitl : Fit l := fun x hx => hfit x (List.mem_cons_of_mem _ hx)
  obtain ⟨PL, hPL⟩ : ∃ PL, putL nm va l = PL := ⟨_, rfl⟩
  obtain ⟨DL, hDL⟩ : ∃ DL, dropN nm l = DL := ⟨_, rfl⟩
  obtain ⟨SL, hSL⟩ : ∃ SL, sortF l = SL := ⟨_, rfl⟩
  have HPL := Lib.hid (show PL.length ≤ 140737488355328 from by
    have h1 := putR_end nm va l
    have h2 := putR_len nm va l
    rw [hPL] at h1
    rw [h1, List.length_append]
    split <;> simp <;> omega)
  have HDL := Lib.hid (show DL.length ≤ 140737488355328 from by
    rw [← hDL]; unfold dropN
    have := List.length_filter_le (fun x => !isN nm x) l
    first | omega | (refine Nat.le_trans (List.length_filter_le _ _) (by omega)))
  have HSL := Lib.hid (show SL.length = l.length from by rw [← hSL, sortF_len])
  have HC1 := Lib.hid (fun v W hW => find_is v l nm T b hT (by omega) (fun x hx => (hfitl x hx).2) W hW)
  have HC2 := Lib.hid (fun v W hW => rfind_is v l nm T b hT (by omega) W hW)
  have HC3 := Lib.hid (fun q c hq hlc hcx W hW => put_is nm va q l.length c l rfl hq hlc (by omega) hcx hfit W hW)
  have HC4 := Lib.hid (fun v W hW => rput_is v l nm va (by omega) W hW)
  have HC5 := Lib.hid (fun q c hq W hW => drop_is nm q c l hq (by omega) hfitl W hW)
  have HC6 := Lib.hid (fun v W hW => rdrop_is v l nm (by omega) W hW)
  have HC7 := Lib.hid (fun q c W hW => sort_is q c l (by omega) hfitl (fun x hx => by have := (ht x hx).1; omega) W hW)
  have HC8 := Lib.hid (fun v W hW => rsort_is v l hl (fun x hx => (ht x hx).1) W hW)
  have e7 : SM.S (fun a b => decide (cmpU (keyU a) (keyU b) < 0)) l = SL := hSL
  rw [e7] at HC7
  rw [hSL] at HC8
  rw [hPL] at HC3 HC4
  rw [hDL] at HC5 HC6
  have HM := Lib.hid hM
  have HV := Lib.hid hv
  have HNN := Lib.hid hn
  obtain ⟨n, hln⟩ : ∃ n, l.length = n := ⟨_, rfl⟩
  rw [hln] at hcap hl HSL HV HC3 HC7 HC8 HC5 ⊢
  have HLN := Lib.hid hln
  clear hv hM hn ht hfit hfitl hPL hDL hSL e7 hT hln
  have HE0 := Lib.hid (show (w.alloc (.cells #[] 38)).ownsRow w.heap.size 38 2 (.slice (some ⟨w.heap.size, 0, none⟩) 0 0) 0 [] from ⟨rfl, .inr ⟨w.heap.size, 0, #[], rfl, Nat.le_refl _, heap_alloc_new w _, Nat.le_refl _, by decide, rfl, rfl⟩⟩)
  have HB0 := Lib.hid (bnew w (.cells #[] 38))
  have key : ∀ (v1 : Value) (w1 : World), (w1.ownsRow w.heap.size 38 2 v1 n (encFs l)) → v1 ≠ .slice none 0 0 → True := fun _ _ _ _ => trivial
  clear key
  go_enter Tryd.func4, Tryd.ntmps4
  rcases p with _ | ad
  focus
    have hc0 := HNN.out rfl
    subst hc0
    have hn0 : n = 0 := by omega
    subst hn0
    go_wp2_with (at_builtin; refine wpList_append_own_none rfl (.tmp 12) (.tmp 13) 22 rfl w.heap.size 38 i0 2 Tryd.underlying22 hi _ 0 [] rfl HE0.out rfl ?_)
    have hlc : 0 ≤ 0 := Nat.le_refl 0
    have hcx : 0 ≤ 9223372036854775807 := Nat.zero_le _
    have HB1 := HB0
    have HL1 := Lib.hid (show Lst (w.alloc (.cells #[] 38)) (.slice (some ⟨w.heap.size, 0, none⟩) 0 0) l from lst_own (show OwnF (w.alloc (.cells #[] 38)) w.heap.size (.slice (some ⟨w.heap.size, 0, none⟩) 0 0) l from by
      have : l = [] := List.eq_nil_of_length_eq_zero HLN.out
      rw [this]; exact HE0.out))
    have HV1 := Lib.hid (HV.out.below HB1.out)
  rotate_left
  focus
    go_wp2_with (at_builtin; refine wpList_append_own_at _ rfl (.tmp 12) (.tmp 13) 22 rfl w.heap.size 38 i0 (.agg #[.string ⟨#[]⟩, .string ⟨#[]⟩]) 2 32 Tryd.underlying22 hi hz0 hz1 hz2 rfl (by decide) _ 0 [] rfl HE0.out ad n cap (encFs l) rfl (by rw [Ks.encFs_len, HLN.out]) (lst_news (HV.out.below HB0.out)) (encFs_one _) (by unfold maxLen; omega) (by omega) (by simp) ?_; intro v1 w1 own1 grow1 nil1 _; have HO1 := Lib.hid own1; have HN1 := Lib.hid nil1; have HB1 := Lib.hid (show Below w.heap.size w w1 from HB0.out.grown grow1 (by simp) (fun k hk => (HE0.out.lt k hk).1)); clear own1 grow1 nil1)
    obtain ⟨a1, c1, rfl, hlc, hcx⟩ : ∃ a1 c1, v1 = .slice (some a1) n c1 ∧ n ≤ c1 ∧ c1 ≤ 9223372036854775807 := by
      rcases HO1.out.2 with ⟨h1, _⟩ | ⟨g1, c1, cur, h1, _, _, h2, h3, _⟩
      · have := (HN1.out.1 h1).1; cases this
      · rw [Nat.zero_add] at h1 h2
        exact ⟨_, c1, h1, h2, by unfold maxLen at h3; omega⟩
    have HL1 := Lib.hid (show Lst w1 (.slice (some a1) n c1) l from lst_own (show OwnF w1 w.heap.size (.slice (some a1) n c1) l from by have := HO1.out; rw [Nat.zero_add, List.nil_append] at this; unfold OwnF; rw [HLN.out]; exact this))
    have HV1 := Lib.hid (HV.out.below HB1.out)
  all_goals
    refine (HC1.out _ _ HL1.out).mono ?_
    rintro e w2 ⟨rfl, hb2⟩
    have HB2 := Lib.hid (bel2 HB1.out hb2)
    have HL2 := Lib.hid (HL1.out.below hb2)
    have HV2 := Lib.hid (HV1.out.below hb2)
    clear hb2 HL1 HV1
    go_wp2_with fail
    refine (HC2.out _ _ HV2.out).mono ?_
    rintro e w3 ⟨rfl, hb3⟩
    have HB3 := Lib.hid (bel2 HB2.out hb3)
    have HL3 := Lib.hid (HL2.out.below hb3)
    have HV3 := Lib.hid (HV2.out.below hb3)
    clear hb3 HL2 HV2
    go_wp2_with fail
    refine (lives_is _ (HM.out.to HB3.out)).mono ?_
    rintro e w4 ⟨rfl, hb4⟩
    have HB4 := Lib.hid (bel2 HB3.out hb4)
    have HL4 := Lib.hid (HL3.out.below hb4)
    have HV4 := Lib.hid (HV3.out.below hb4)
    clear hb4 HL3 HV3
    go_wp2_with fail
    refine (HC3.out _ _ (fun h => by cases h) hlc hcx _ HL4.out).mono ?_
    rintro e w5 ⟨⟨q5, c5, rfl, ho5⟩, hb5⟩
    have HB5 := Lib.hid (bel2 HB4.out hb5)
    have HL5 := Lib.hid (HL4.out.below hb5)
    have HV5 := Lib.hid (HV4.out.below hb5)
    have HX5 := Lib.hid (lst_own ho5)
    clear ho5
    clear hb5 HL4 HV4
    go_wp2_with fail
    refine (HC4.out _ _ HV5.out).mono ?_
    rintro e w6 ⟨⟨q6, c6, rfl, ho6⟩, hb6⟩
    have HB6 := Lib.hid (bel2 HB5.out hb6)
    have HL6 := Lib.hid (HL5.out.below hb6)
    have HV6 := Lib.hid (HV5.out.below hb6)
    have HX6 := Lib.hid (lst_own ho6)
    have HY5 := Lib.hid (HX5.out.below hb6)
    clear ho6 HX5
    clear hb6 HL5 HV5
    go_wp2_with fail
    refine (same_isP _ _ PL PL true (decide_eq_true rfl) HPL.out HPL.out _ HY5.out HX6.out).mono ?_
    rintro e w7 ⟨rfl, hb7⟩
    have HB7 := Lib.hid (bel2 HB6.out hb7)
    have HL7 := Lib.hid (HL6.out.below hb7)
    have HV7 := Lib.hid (HV6.out.below hb7)
    clear hb7 HL6 HV6
    go_wp2_with fail
    refine (HC5.out _ _ (fun h => by cases h) _ HL7.out).mono ?_
    rintro e w8 ⟨⟨q8, c8, rfl, ho8⟩, hb8⟩
    have HB8 := Lib.hid (bel2 HB7.out hb8)
    have HL8 := Lib.hid (HL7.out.below hb8)
    have HV8 := Lib.hid (HV7.out.below hb8)
    have HX8 := Lib.hid (lst_own ho8)
    clear ho8
    clear hb8 HL7 HV7
    go_wp2_with fail
    refine (HC6.out _ _ HV8.out).mono ?_
    rintro e w9 ⟨⟨q9, c9, rfl, ho9⟩, hb9⟩
    have HB9 := Lib.hid (bel2 HB8.out hb9)
    have HL9 := Lib.hid (HL8.out.below hb9)
    have HV9 := Lib.hid (HV8.out.below hb9)
    have HX9 := Lib.hid (lst_own ho9)
    have HY8 := Lib.hid (HX8.out.below hb9)
    clear ho9 HX8
    clear hb9 HL8 HV8
    go_wp2_with fail
    refine (same_isP _ _ DL DL true (decide_eq_true rfl) HDL.out HDL.out _ HY8.out HX9.out).mono ?_
    rintro e w10 ⟨rfl, hb10⟩
    have HB10 := Lib.hid (bel2 HB9.out hb10)
    have HL10 := Lib.hid (HL9.out.below hb10)
    have HV10 := Lib.hid (HV9.out.below hb10)
    clear hb10 HL9 HV9
    go_wp2_with fail
    refine (HC7.out _ _ _ HL10.out).mono ?_
    rintro e w11 ⟨⟨q11, c11, rfl, ho11⟩, hb11⟩
    have HB11 := Lib.hid (bel2 HB10.out hb11)
    have HL11 := Lib.hid (HL10.out.below hb11)
    have HV11 := Lib.hid (HV10.out.below hb11)
    have HX11 := Lib.hid (show Lst w11 (.slice q11 _ c11) SL from lst_own ho11)
    clear ho11
    clear hb11 HL10 HV10
    go_wp2_with fail
    refine (HC8.out _ _ HV11.out).mono ?_
    rintro e w12 ⟨⟨q12, c12, rfl, ho12⟩, hb12⟩
    have HB12 := Lib.hid (bel2 HB11.out hb12)
    have HL12 := Lib.hid (HL11.out.below hb12)
    have HV12 := Lib.hid (HV11.out.below hb12)
    have HX12 := Lib.hid (show Lst w12 (.slice q12 _ c12) SL from lst_own ho12)
    have HY11 := Lib.hid (HX11.out.below hb12)
    clear ho12 HX11
    clear hb12 HL11 HV11
    go_wp2_with fail
    refine (same_isP _ _ SL SL true (decide_eq_true rfl) (by rw [HSL.out]; omega) (by rw [HSL.out]; omega) _ HY11.out HX12.out).mono ?_
    rintro e w13 ⟨rfl, hb13⟩
    have HB13 := Lib.hid (bel2 HB12.out hb13)
    have HL13 := Lib.hid (HL12.out.below hb13)
    have HV13 := Lib.hid (HV12.out.below hb13)
    clear hb13 HL12 HV12
    go_wp2_with fail
    refine (same_isP _ _ l l true (decide_eq_true rfl) (by rw [HLN.out]; omega) (by rw [HLN.out]; omega) _ HL13.out HV13.out).mono ?_
    rintro e w14 ⟨rfl, hb14⟩
    have HB14 := Lib.hid (bel2 HB13.out hb14)
    have HL14 := Lib.hid (HL13.out.below hb14)
    have HV14 := Lib.hid (HV13.out.below hb14)
    clear hb14 HL13 HV13
    go_wp2
    go_ret
    exact ⟨rfl, HB14.out⟩
end Go.Proofs.YtnjnhgeafbofkaaDoor
/-
  What lifts the walks of this seat: a list of pairs that came in, opened; MaxLen from the world's shape; the wrap that keeps both the shape and what is listed.
-/
namespace Go.Proofs.YtnjnhgeafbofkaaDoor
open Go.ChangeShapes Go.WideShapes Go.ChangeAt Go.RowKit Go.Deep
theorem own : ownKnob Tryd.prog.godebug = none := by kernel_rfl
theorem laidOut : laidOutB Tryd.prog = true := by kernel_rfl
abbrev theLaid : List (String × DataW Unit) := Rows.queryJoinsRow.laid
theorem ml_of {W : World} (hsh : W.ShapedOpen Tryd.prog) : ML W := Tryd.laysM143.s1_3 W hsh
/-- the wrap that keeps both the world's shape and what is listed -/
theorem wrapBoth {H : Type} {enc : TypeId × Value → H} {a : Assume} {C : Checked} {os : Os} {f : FuncId} {fn : Func} {s : ChangeSpec} {conds : List PathCond} {apart fresh handsOn again : Bool} {X : World → Array Value → Prop}
    (hX : ∀ (w w' : World) (args : Array Value), w.heap = w'.heap → X w args → X w' args)
    (own : ownKnob C.prog.godebug = none) (started : os.Started) (noInit : C.prog.inits.idxOf? f = none) (hfn : C.prog.funcs[f]? = some fn)
    (witness : ∃ (w : World) (tape : Tape) (i : Input), w.os = os ∧ (w.forCall tape i).Shaped C.prog ∧ i.vars = [] ∧ Input.okWide C.prog (w.forCall tape i) .any w.heap.size f i ∧
      ((s.pre enc C.prog fn conds apart (w.forCall tape i).memory i.args ∧ X (w.forCall tape i).memory i.args) ∧ sizedMet enc C.prog fn (OpenSpec.ofChange s) apart (w.forCall tape i).memory i.args) ∧ a.holds C.prog (lone (Frame.enter C.prog f i.args .normal) [] (w.forCall tape i)))
    (contract : ∀ (W : World) (base : Nat) (args : Array Value) (ds gs : List (DataW H)) (before : List MemPlace),
      (∀ (j : Nat) t v, fn.params[j]? = some t → args[j]? = some v → Value.okWide C.prog W .any base t v) →
      DataW.Whole enc C.prog fn.params.toList s.vars apart W args.toList ds gs before →
      (DataW.weightsEach C.prog (fn.params.toList ++ s.plain.varTypes C.prog) (ds ++ gs)).all (· ≤ reachBytes) = true → W.ShapedOpen C.prog → X W args →
      Calls C.prog f args W fun e W' => ∃ v, e = .returned v ∧ s.post enc C.prog fn apart fresh handsOn again W args v W') :
    ReturnsInHanded a C os f .any (fun w args => (s.pre enc C.prog fn conds apart w args ∧ X w args) ∧ sizedMet enc C.prog fn (OpenSpec.ofChange s) apart w args) (s.post enc C.prog fn apart fresh handsOn again) := by
  refine returnsInHanded_of_calls own started noInit witness ?_
  intro w tape i _ hsh _ hok hpre _
  obtain ⟨_, _, _, fn', hfn', _, _, _, _, hval⟩ := hok
  have e : fn' = fn := Option.some.inj (hfn'.symm.trans hfn)
  subst e
  obtain ⟨⟨⟨ds, gs, before, hw, _⟩, hx⟩, hz⟩ := hpre
  have hw' := DataW.Whole.of_heap (w' := w.forCall tape i) (by rfl) hw
  refine (contract (w.forCall tape i) w.heap.size i.args ds gs before hval hw' (hz.weights hw) hsh (hX _ _ _ (by rfl) hx)).mono fun e W' ⟨v, he, hp⟩ => ?_
  subst he
  exact ChangeSpec.post_blind hp
theorem met_laid (os : Os) (args : Array Value) : laidMetH Tryd.prog theLaid ((World.laidAll Tryd.prog os theLaid).forCall (fun _ _ => 0) ⟨#[], args, []⟩).memory := by
  rw [MakeChecks.laidMetH_plain _ _ _ (by kernel_rfl)]
  exact laidMet_laidAll _ (by kernel_rfl) (by kernel_rfl)
section
variable {H : Type} {enc : TypeId × Value → H} {W : World}
abbrev TR (enc : TypeId × Value → H) (W : World) (fuel : Nat) (t : TypeId) (cs : List Value) (z : DataW H × List MemPlace) : Prop := DataW.trod enc Tryd.prog W 0 (fun _ => true) true fuel t cs = some z
/-- a field's own reading -/
theorem at_field {t n : Nat} {fs : Array Field} {cs : List Value} {z : DataW H × List MemPlace} (he : Tryd.prog.underlying t = some (.struct fs)) (hone : oneCellFields Tryd.prog fs = true) (h : TR enc W n t cs z) :
    ∃ n', ∀ (i : Nat) (f : Field) (c : Value), fs[i]? = some f → cs[i]? = some c → ∃ y, TR enc W n' f.type [c] y := by
  obtain ⟨xs, n', _, _, _, hlen, hg⟩ := DataW.trod_struct he h
  refine ⟨n', fun i f c hf hc => ?_⟩
  obtain ⟨ho, hk⟩ := hone_of hone i f hf
  have h1 := hg i f hf
  rw [ho, hk] at h1
  have hil : i < cs.length := (List.getElem?_eq_some_iff.1 hc).1
  have hd : (cs.drop i).take 1 = [c] := by
    rw [List.drop_eq_getElem_cons hil]
    have : cs[i] = c := by rw [List.getElem?_eq_getElem hil] at hc; exact Option.some.inj hc
    rw [this]; rfl
  rw [hd] at h1
  have hix : i < xs.length := by rw [hlen]; exact (Array.getElem?_eq_some_iff.1 hf).1
  exact ⟨xs[i], h1.trans (List.getElem?_eq_getElem hix)⟩
theorem is_str {n : Nat} {c : Value} {y : DataW H × List MemPlace} (h : TR enc W n 9 [c] y) : ∃ a, c = .string a := by
  obtain ⟨a, hc, _, hw⟩ := DataW.trod_string Tryd.underlying9 h
  simp only [List.cons.injEq, and_true] at hc
  exact ⟨a, hc⟩
theorem el_field : ∀ n cs (z : DataW H × List MemPlace), cs.length = 2 → TR enc W n 38 cs z → ∃ x : Fd, encF x = cs := by
  intro n cs z hl h
  obtain ⟨n', hf⟩ := at_field Tryd.underlying38 (by kernel_rfl) h
  match cs, hl with
  | [c0, c1], _ =>
    obtain ⟨_, h0⟩ := hf 0 _ c0 rfl rfl
    obtain ⟨_, h1⟩ := hf 1 _ c1 rfl rfl
    obtain ⟨a, rfl⟩ := is_str h0
    obtain ⟨b, rfl⟩ := is_str h1
    exact ⟨(a, b), rfl⟩
theorem cells38 : Tryd.prog.cellsOf 38 = 2 := by kernel_rfl
/-- a list of pairs that came in -/
theorem open_fields {v : Value} {d : DataW H} {p : List MemPlace} {q : Option Addr} {len cap0 : Nat} (hv : v = .slice q len cap0) (h : DataW.Trod enc Tryd.prog W 0 (fun _ => true) true 22 v d p) (hw : (DataW.weights Tryd.prog 22 d).all (· ≤ reachBytes) = true) :
    ∃ (q : Option Addr) (l : List Fd) (cap : Nat), v = .slice q l.length cap ∧ Lst W (.slice q l.length cap) l ∧ l.length ≤ cap ∧ cap * 32 ≤ 140737488351232 ∧ (q = none → cap = 0) := by
  subst hv
  obtain ⟨fuel, hf⟩ := h
  rcases open_slice Tryd.underlying22 hf with ⟨hcs, hx⟩ | ⟨a, len, cap, m, n, D, Pl, hcs, _, hl, _, hm, hx, hi⟩
  · simp [Value.cells] at hcs
    obtain ⟨rfl, rfl, rfl⟩ := hcs
    exact ⟨none, [], 0, rfl, ⟨none, 0, rfl, fun i x hi => by simp at hi⟩, Nat.le_refl _, by omega, fun _ => rfl⟩
  · simp [Value.cells] at hcs
    obtain ⟨rfl, rfl, rfl⟩ := hcs
    have hm' : m = cap0 := by simpa using hm
    simp only [Prod.mk.injEq] at hx
    have each : ∀ i, i < len → ∃ x : Fd, ∀ j u, (encF x)[j]? = some u → W.cell? ((a.add (i * 2)).add j) = some u := fun i hil => by
      obtain ⟨cs', hc, ht'⟩ := hi i (by omega)
      rw [cells38] at hc
      obtain ⟨_, hcl, hat⟩ := World.cells?_some hc
      obtain ⟨x, hx⟩ := el_field n cs' _ hcl ht'
      refine ⟨x, fun j u hj => ?_⟩
      rw [hx] at hj
      have hjl : j < 2 := by rw [← hcl]; exact (List.getElem?_eq_some_iff.1 hj).1
      rw [hat j hjl]; exact hj
    have hcap : cap0 * 32 ≤ 140737488351232 := by
      have hb : Tryd.prog.bytesOf 38 = 32 := by kernel_rfl
      have hmem := List.all_eq_true.1 hw ((len + (cap0 - len)) * 32) (by
        rw [hx.1]
        simp [DataW.weights, Tryd.underlying22, hb, hm'])
      have := of_decide_eq_true hmem
      simp only [reachBytes] at this
      rw [show len + (cap0 - len) = cap0 by omega] at this
      exact this
    refine ⟨some a, List.ofFn (fun i : Fin len => Classical.choose (each i.1 i.2)), cap0, by rw [List.length_ofFn], ?_, by rw [List.length_ofFn]; exact hl, hcap, (fun h => by cases h)⟩
    refine ⟨some a, cap0, rfl, fun i x hx => ?_⟩
    have hil : i < len := by
      have := (List.getElem?_eq_some_iff.1 hx).1
      rwa [List.length_ofFn] at this
    rw [List.getElem?_ofFn, dif_pos hil] at hx
    simp only [Option.some.injEq] at hx
    have hcell := Classical.choose_spec (each i hil)
    rw [hx] at hcell
    obtain ⟨x0, hc0⟩ := each 0 (by omega)
    obtain ⟨b, off, spot⟩ := a
    have hspot : spot = none := by simpa [Addr.add] using World.cell?_spot (hc0 0 _ rfl)
    subst hspot
    have c0 := hcell 0 _ rfl
    have c1 := hcell 1 _ rfl
    rw [Addr.add_lit, Addr.add_lit] at c0 c1
    obtain ⟨o, ho, _⟩ := cells_of_cell c0
    exact ⟨b, off, rfl, (Array.getElem?_eq_some_iff.1 ho).1, c0, c1⟩
end
end Go.Proofs.YtnjnhgeafbofkaaDoor
