import Derived.Test.YtlpkcpacfldfaaaGreatLI
import Derived.Maps.AppendAt
namespace Go.Proofs.YtlpkcpacfldfaaaGreat
open Go.RowKit N
/-- two lists of runes of the call's own, that grow beside one another -/
structure Two (w : World) (B : Nat) (x y : Value) (X Y : List Int) : Prop where
  fx : Own w B x X
  fy : Own w B y Y
  fa : x.ownBlock = none ∨ y.ownBlock = none ∨ x.ownBlock ≠ y.ownBlock
theorem Two.nil (w : World) (B : Nat) : Two w B (.slice none 0 0) (.slice none 0 0) [] [] := ⟨World.ownsRow_nil _ _ _ _, World.ownsRow_nil _ _ _ _, .inl rfl⟩
theorem Two.swap {w : World} {B : Nat} {x y : Value} {X Y : List Int} (h : Two w B x y X Y) : Two w B y x Y X := ⟨h.fy, h.fx, by
  rcases h.fa with h | h | h
  · exact .inr (.inl h)
  · exact .inl h
  · exact .inr (.inr fun e => h e.symm)⟩
theorem Two.alloc {w : World} {B : Nat} {x y : Value} {X Y : List Int} (h : Two w B x y X Y) (o : Obj) : Two (w.alloc o) B x y X Y := ⟨h.fx.alloc o, h.fy.alloc o, h.fa⟩
theorem Two.to {w w' : World} {B : Nat} {x y : Value} {X Y : List Int} (h : Two w B x y X Y) (hb : Below w.heap.size w w') : Two w' B x y X Y := ⟨h.fx.to hb, h.fy.to hb, h.fa⟩
theorem Two.put {w w' : World} {B : Nat} {x x' y : Value} {X Y : List Int} {r : Int} (h : Two w B x y X Y) (h1 : w'.ownsRow B 21 1 x' (X.length + 1) (X.map (Value.int .i32) ++ [.int .i32 r])) (hg : w.grownBy w' x.ownBlock) (hat : x'.ownBlock = x.ownBlock ∨ x'.ownBlock = some w.heap.size) : Two w' B x' y (X ++ [r]) Y := by
  refine ⟨own_snoc h1, h.fy.kept hg ?_, ?_⟩
  · rcases h.fa with e | e | e
    · rw [e]; by_cases hy : y.ownBlock = none
      · exact .inl hy
      · exact .inr hy
    · exact .inl e
    · exact .inr fun e2 => e e2.symm
  · rcases hat with e | e
    · rw [e]; exact h.fa
    · refine .inr ?_
      by_cases hy : y.ownBlock = none
      · exact .inl hy
      · refine .inr fun e2 => ?_
        have := (h.fy.lt w.heap.size (by rw [← e2, e])).2
        exact Nat.lt_irrefl _ this
theorem Two.cast {w : World} {B : Nat} {x y : Value} {X Y X' Y' : List Int} (h : Two w B x y X Y) (hX : X = X') (hY : Y = Y') : Two w B x y X' Y' := by subst hX hY; exact h
theorem filt_snoc {f : Int → Bool} {l : List Int} {k : Nat} {r : Int} (h : k < l.length) (hr : l[k] = r) : (l.take (k + 1)).filter f = (l.take k).filter f ++ (if f r then [r] else []) := by
  rw [take_snoc l k h, hr, List.filter_append]
  congr 1
  cases hf : f r <;> simp [hf]
theorem filt_len (f : Int → Bool) (l : List Int) (k : Nat) : ((l.take k).filter f).length ≤ k := by
  have h1 := List.length_filter_le f (l.take k)
  rw [List.length_take] at h1
  omega
theorem cls_zero_at {T : Tab} (hT : Fit T) {l : List Int} {k : Nat} {r s : Int} (h1 : l[k]? = some r) (h2 : (ord (cls T) l)[k]? = some s) : (cls T r == 0) = (cls T s == 0) := by
  have h := ord_zero (cls T) (fun r => (hT.cls r).1) l
  have e1 : (l.map (fun x => cls T x == 0))[k]? = some (cls T r == 0) := by rw [List.getElem?_map, h1]; rfl
  have e2 : ((ord (cls T) l).map (fun x => cls T x == 0))[k]? = some (cls T s == 0) := by rw [List.getElem?_map, h2]; rfl
  rw [h, e1] at e2
  exact Option.some.inj e2
theorem cls_ord_at {T : Tab} {l : List Int} {k : Nat} {a b : Int} (h1 : (ord (cls T) l)[k]? = some a) (h2 : (ord (cls T) l)[k + 1]? = some b) : cls T b = 0 ∨ cls T a ≤ cls T b := adj_at (ord_adj (cls T) l) h1 h2

set_option maxRecDepth 20000 in
set_option maxHeartbeats 2000000 in
theorem NfcOrder_walk (q : TQ) (v : Value) (l : List Int) (w : World) (hv : RunesAt w v l) (hw : Wf32 l) (hl : l.length ≤ 1048576) (hT : TabAt w q) (hg : Good q.T) :
    Calls Tryz.prog 4 #[q.v, v] w fun e w' => e = .returned (.bool true) ∧ Below w.heap.size w w' := by
  obtain ⟨j0, hj, hy0, hy1, hy2⟩ := info_parts infoRune
  obtain ⟨p, cap, rfl, hc⟩ := id hv
  obtain ⟨L, hL⟩ : ∃ L, ord (cls q.T) l = L := ⟨_, rfl⟩
  have HLl : Hid (L.length = l.length) := Lib.hid (by rw [← hL]; exact ord_len _ _)
  have hLb : L.length ≤ 1048576 := by have := HLl.out; omega
  have HL := Lib.hid hL
  have HLL : Hid (ord (cls q.T) L = L) := Lib.hid (by rw [← hL]; exact ord_ord _ _)
  have HFI : Hid (∀ c, L.filter (fun x => cls q.T x == c) = l.filter (fun x => cls q.T x == c)) := Lib.hid (fun c => by rw [← hL]; exact ord_filter _ _ _)
  have HZE : Hid (∀ k r s, l[k]? = some r → L[k]? = some s → (cls q.T r == 0) = (cls q.T s == 0)) := Lib.hid (fun k r s h1 h2 => cls_zero_at hg.f h1 (by rw [hL]; exact h2))
  have HAD : Hid (∀ k a b, L[k]? = some a → L[k + 1]? = some b → cls q.T b = 0 ∨ cls q.T a ≤ cls q.T b) := Lib.hid (fun k a b h1 h2 => cls_ord_at (by rw [hL]; exact h1) (by rw [hL]; exact h2))
  have HV := Lib.hid (And.intro hv (And.intro hw (show l.length ≤ 35184372088320 by omega)))
  have HT := Lib.hid (And.intro hT hg)
  have HG0 := Lib.hid (Has.new w (.cells q.cs 28))
  have HB0 := Lib.hid (bnew w (.cells q.cs 28))
  have hm0 : Tryz.prog.follows .mixedOrders = true := by kernel_rfl
  clear hv hw hc hL hT hg
  unfold TQ.v
  go_enter Tryz.func4, Tryz.ntmps4
  go_wp2_with fail
  refine (lives_is _).mono ?_
  rintro e w1 ⟨rfl, hb1⟩
  have HG1 := Lib.hid (HG0.out.to hb1)
  have HB1 := Lib.hid (bel2 HB0.out hb1)
  clear hb1
  have m0 : w1.cell? ⟨w.heap.size, 0, none⟩ = some (.slice q.p0 q.T.spans.length q.c0) := HG1.out.cell 0 rfl
  have m1 : w1.cell? ⟨w.heap.size, 1, none⟩ = some (.slice q.p1 q.T.classes.length q.c1) := HG1.out.cell 1 rfl
  have m2 : w1.cell? ⟨w.heap.size, 2, none⟩ = some (.slice q.p2 q.T.pairs.length q.c2) := HG1.out.cell 2 rfl
  have m3 : w1.cell? ⟨w.heap.size, 3, none⟩ = some (.slice q.p3 q.T.ways.length q.c3) := HG1.out.cell 3 rfl
  have m4 : w1.cell? ⟨w.heap.size, 4, none⟩ = some (.slice q.p4 q.T.joins.length q.c4) := HG1.out.cell 4 rfl
  go_wp2_with fail
  refine (ordered_is q (.slice p l.length cap) l L HL.out _ (HV.out.1.below HB1.out) (by omega) (HT.out.1.below HB1.out) HT.out.2.f).mono ?_
  rintro e w2 ⟨v2, rfl, ho2, hb2⟩
  have HG2 := Lib.hid (HG1.out.to hb2)
  have HB2 := Lib.hid (bel2 HB1.out hb2)
  have HO2 := Lib.hid ho2.at
  obtain ⟨p2, c2, rfl, _⟩ := id ho2.form
  clear ho2 hb2 m0 m1 m2 m3 m4
  have m0 : w2.cell? ⟨w.heap.size, 0, none⟩ = some (.slice q.p0 q.T.spans.length q.c0) := HG2.out.cell 0 rfl
  have m1 : w2.cell? ⟨w.heap.size, 1, none⟩ = some (.slice q.p1 q.T.classes.length q.c1) := HG2.out.cell 1 rfl
  have m2 : w2.cell? ⟨w.heap.size, 2, none⟩ = some (.slice q.p2 q.T.pairs.length q.c2) := HG2.out.cell 2 rfl
  have m3 : w2.cell? ⟨w.heap.size, 3, none⟩ = some (.slice q.p3 q.T.ways.length q.c3) := HG2.out.cell 3 rfl
  have m4 : w2.cell? ⟨w.heap.size, 4, none⟩ = some (.slice q.p4 q.T.joins.length q.c4) := HG2.out.cell 4 rfl
  have hne : ((L.length : Int) != (l.length : Int)) = false := by have := HLl.out; simp [this]
  go_wp2_with fail
  refine (ordered_is q (.slice p2 L.length c2) L L HLL.out _ HO2.out (by omega) (HT.out.1.below HB2.out) HT.out.2.f).mono ?_
  rintro e w3 ⟨v3, rfl, ho3, hb3⟩
  have HG3 := Lib.hid (HG2.out.to hb3)
  have HB3 := Lib.hid (bel2 HB2.out hb3)
  have HO3 := Lib.hid (And.intro (HO2.out.below hb3) ho3.at)
  obtain ⟨p3, c3, rfl, _⟩ := id ho3.form
  clear ho3 hb3 m0 m1 m2 m3 m4
  go_wp2_with fail
  refine (same_is _ _ L L true (by simp) (by omega) _ HO3.out.2 HO3.out.1).mono ?_
  rintro e w4 ⟨rfl, hb4⟩
  have HG := Lib.hid (HG3.out.to hb4)
  have HB4 := Lib.hid (bel2 HB3.out hb4)
  have HOL := Lib.hid (HO3.out.1.below hb4)
  have HOl := Lib.hid (HV.out.1.below HB4.out)
  clear hb4 HG0 HG1 HG2 HG3 HO2 HO3 HB0 HB1 HB2 HB3
  go_wp2
  go_loopw [6] (fun cv wr => ∃ c : Nat, cv = .int .i64 c ∧ c ≤ 256 ∧ Below w4.heap.size w4 wr) (fun cv _ => 256 - (intOf cv).toNat)
  case atStart => exact ⟨0, rfl, by omega, Below.refl _ _⟩
  case round =>
    obtain ⟨c, rfl, hc256, hBo⟩ := hrel
    have HBo := Lib.hid hBo
    clear hBo
    by_cases hlt : c < 256
    · have hcz : (c : Int) < 256 := by omega
      have hd1 : decide ((c : Int) < 256) = true := decide_eq_true hcz
      have wu8 : IntKind.u8.wrap (c : Int) = (c : Int) := IntWalk.u8_in _ (by omega)
      go_wp2
      obtain ⟨wo, rfl⟩ : ∃ wo, wo = wr := ⟨_, rfl⟩
      go_loopw [7, 8, 35] (fun xvv yvv kv wr => ∃ (k : Nat) (xv yv : Value), xvv = xv ∧ yvv = yv ∧ kv = .int .i64 k ∧ k ≤ l.length ∧ Hid (Two wr w4.heap.size xv yv ((l.take k).filter (fun x => cls q.T x == (c : Int))) ((L.take k).filter (fun x => cls q.T x == (c : Int)))) ∧ Below w4.heap.size w4 wr) (fun _ _ kv _ => l.length - (intOf kv).toNat)
      case atStart => exact ⟨0, _, _, rfl, rfl, rfl, Nat.zero_le _, Lib.hid (Two.nil _ _), HBo.out⟩
      case round =>
        obtain ⟨k, xv, yv, rfl, rfl, rfl, hk, HTw, hB⟩ := hrel
        have HB := Lib.hid hB
        clear hB
        by_cases hlk : k < l.length
        · have hlkz : (k : Int) < (l.length : Int) := by omega
          have hLk : k < L.length := by have := HLl.out; omega
          have hLkz : (k : Int) < (L.length : Int) := by omega
          obtain ⟨pl, capl, hpl, hcl⟩ := HOl.out
          simp only [Value.slice.injEq] at hpl
          obtain ⟨rfl, _, rfl⟩ := hpl
          obtain ⟨pL, capL, hpL, hcL⟩ := HOL.out
          simp only [Value.slice.injEq] at hpL
          obtain ⟨rfl, _, rfl⟩ := hpL
          obtain ⟨r, hr⟩ : ∃ r, l[k]? = some r := ⟨_, List.getElem?_eq_getElem hlk⟩
          obtain ⟨s, hs⟩ : ∃ s, L[k]? = some s := ⟨_, List.getElem?_eq_getElem hLk⟩
          obtain ⟨gl, ol, rfl, hgl, hxl⟩ := hcl k r hr
          obtain ⟨gL, oL, rfl, hgL, hxL⟩ := hcL k s hs
          have HCL := Lib.hid hxl
          have HCL2 := Lib.hid hxL
          obtain ⟨X, hX⟩ : ∃ X, X = (l.take k).filter (fun x => cls q.T x == (c : Int)) := ⟨_, rfl⟩
          obtain ⟨Y, hY⟩ : ∃ Y, Y = (L.take k).filter (fun x => cls q.T x == (c : Int)) := ⟨_, rfl⟩
          have hXk : X.length ≤ k := by rw [hX]; exact filt_len _ _ _
          have hYk : Y.length ≤ k := by rw [hY]; exact filt_len _ _ _
          have HX := Lib.hid (And.intro hX (filt_snoc (f := fun x => cls q.T x == (c : Int)) hlk (r := r) (by rw [List.getElem?_eq_getElem hlk] at hr; exact Option.some.inj hr)))
          have HY := Lib.hid (And.intro hY (filt_snoc (f := fun x => cls q.T x == (c : Int)) (l := L) (k := k) hLk (r := s) (by rw [List.getElem?_eq_getElem hLk] at hs; exact Option.some.inj hs)))
          rw [← hX, ← hY] at HTw
          obtain ⟨cr, hcr⟩ : ∃ cr, cls q.T r = cr := ⟨_, rfl⟩
          obtain ⟨cs, hcs⟩ : ∃ cs, cls q.T s = cs := ⟨_, rfl⟩
          have HR := Lib.hid (And.intro hr hcr)
          have HS := Lib.hid (And.intro hs hcs)
          obtain ⟨px, cx, rfl, _⟩ := HTw.out.fx.form
          obtain ⟨py, cy, rfl, _⟩ := HTw.out.fy.form
          clear hX hY hcr hcs hr hs hxl hxL hcl hcL
          have m0 : ∀ p : Later wr, p.v.cell? ⟨w.heap.size, 0, none⟩ = some (.slice q.p0 q.T.spans.length q.c0) := fun p => p.c ((HG.out.to HB.out).cell 0 rfl) (HG.out.to HB.out).lt
          have m1 : ∀ p : Later wr, p.v.cell? ⟨w.heap.size, 1, none⟩ = some (.slice q.p1 q.T.classes.length q.c1) := fun p => p.c ((HG.out.to HB.out).cell 1 rfl) (HG.out.to HB.out).lt
          have m2 : ∀ p : Later wr, p.v.cell? ⟨w.heap.size, 2, none⟩ = some (.slice q.p2 q.T.pairs.length q.c2) := fun p => p.c ((HG.out.to HB.out).cell 2 rfl) (HG.out.to HB.out).lt
          have m3 : ∀ p : Later wr, p.v.cell? ⟨w.heap.size, 3, none⟩ = some (.slice q.p3 q.T.ways.length q.c3) := fun p => p.c ((HG.out.to HB.out).cell 3 rfl) (HG.out.to HB.out).lt
          have m4 : ∀ p : Later wr, p.v.cell? ⟨w.heap.size, 4, none⟩ = some (.slice q.p4 q.T.joins.length q.c4) := fun p => p.c ((HG.out.to HB.out).cell 4 rfl) (HG.out.to HB.out).lt
          have cl : ∀ p : Later wr, p.v.cell? ⟨gl, ol + k, none⟩ = some (.int .i32 r) := fun p => p.c ((HB.out.cell (p := ⟨gl, ol + k, none⟩) hgl).trans HCL.out) (Nat.lt_of_lt_of_le hgl HB.out.size)
          have HK1 := Lib.hid (show ∀ p : Later wr, Calls Tryz.prog 27 #[q.v, .int .i32 r] p.v fun e w' => e = .returned (.int .u8 cr) ∧ Below p.v.heap.size p.v w' from fun p => class_is q r cr HR.out.2 p.v (HT.out.1.below (HB4.out.trans ((HB.out.trans (p.h.mono HB.out.size)).mono HB4.out.size))) HT.out.2.f)
          by_cases h1 : cr = (c : Int)
          · have e1 : (cr == (c : Int)) = true := by simpa using h1
            have HC1 : Hid ((cls q.T r == (c : Int)) = true) := Lib.hid (by rw [HR.out.2]; exact e1)
            clear h1
            by_cases h2 : cs = (c : Int)
            · have e2 : (cs == (c : Int)) = true := by simpa using h2
              have HC2 : Hid ((cls q.T s == (c : Int)) = true) := Lib.hid (by rw [HS.out.2]; exact e2)
              clear h2
              go_wp2_with fail
              refine wp_region_quiet_later hm0 (by kernel_rfl) ?_
              repeat (quiet_step ((go_at_call 27; exact Calls.later_of (HK1.out _))))
              refine wpQuiet_nil ?_
              rintro _ ⟨pp, rfl⟩
              have hb5 := pp.h
              obtain ⟨w5, hw5⟩ : ∃ w5, w5 = pp.v := ⟨_, rfl⟩
              rw [← hw5] at hb5
              simp only [← hw5]
              clear hw5 m0 m1 m2 m3 m4 cl
              have HB5 := Lib.hid (HB.out.trans (hb5.mono HB.out.size))
              have HTw5 := Lib.hid (HTw.out.to hb5)
              have HG5 := Lib.hid (HG.out.to HB5.out)
              have hs5 := HB5.out.size
              clear hb5
              have cl5 := (HB5.out.cell (p := ⟨gl, ol + k, none⟩) hgl).trans HCL.out
              go_wp2_with (at_builtin; refine wpList_append_own_at _ rfl _ _ 29 rfl w4.heap.size 21 j0 (.int .i32 0) 1 4 Tryz.underlying29 hj hy0 hy1 hy2 rfl (by decide) (.slice px X.length cx) X.length (X.map (Value.int .i32)) rfl (HTw5.out.fx.alloc _) ⟨w5.heap.size, 0, none⟩ 1 1 [.int .i32 r] rfl rfl (by first | exact lit32 w5 r | (have := lit32 w5 r; simpa using this)) (one32 r) (by unfold maxLen; omega) (by omega) (by first | omega | (simp; omega)) ?_; intro v6 w6 hown6 hgrow6 _ hat6; have HTw6 : Hid (Two w6 w4.heap.size v6 (.slice py Y.length cy) (X ++ [r]) Y) := Lib.hid ((HTw5.out.alloc _).put hown6 hgrow6 hat6); have HB6 : Hid (Below w4.heap.size w4 w6) := Lib.hid (bel_grown (v := .slice px X.length cx) (HB5.out.alloc (by first | omega | (simp; omega)) _) (HTw5.out.fx.alloc _) hgrow6 (by first | omega | (simp; omega))); clear hown6 hgrow6 hat6 cl5; obtain ⟨px6, cx6, rfl, _⟩ := HTw6.out.fx.form)
              have hs6 := HB6.out.size
              have HG6 := Lib.hid (HG.out.to HB6.out)
              have m0 : ∀ p : Later w6, p.v.cell? ⟨w.heap.size, 0, none⟩ = some (.slice q.p0 q.T.spans.length q.c0) := fun p => p.c (HG6.out.cell 0 rfl) HG6.out.lt
              have m1 : ∀ p : Later w6, p.v.cell? ⟨w.heap.size, 1, none⟩ = some (.slice q.p1 q.T.classes.length q.c1) := fun p => p.c (HG6.out.cell 1 rfl) HG6.out.lt
              have m2 : ∀ p : Later w6, p.v.cell? ⟨w.heap.size, 2, none⟩ = some (.slice q.p2 q.T.pairs.length q.c2) := fun p => p.c (HG6.out.cell 2 rfl) HG6.out.lt
              have m3 : ∀ p : Later w6, p.v.cell? ⟨w.heap.size, 3, none⟩ = some (.slice q.p3 q.T.ways.length q.c3) := fun p => p.c (HG6.out.cell 3 rfl) HG6.out.lt
              have m4 : ∀ p : Later w6, p.v.cell? ⟨w.heap.size, 4, none⟩ = some (.slice q.p4 q.T.joins.length q.c4) := fun p => p.c (HG6.out.cell 4 rfl) HG6.out.lt
              have cl : ∀ p : Later w6, p.v.cell? ⟨gL, oL + k, none⟩ = some (.int .i32 s) := fun p => p.c ((HB6.out.cell (p := ⟨gL, oL + k, none⟩) hgL).trans HCL2.out) (Nat.lt_of_lt_of_le hgL hs6)
              have HK2 := Lib.hid (show ∀ p : Later w6, Calls Tryz.prog 27 #[q.v, .int .i32 s] p.v fun e w' => e = .returned (.int .u8 cs) ∧ Below p.v.heap.size p.v w' from fun p => class_is q s cs HS.out.2 p.v (HT.out.1.below (HB4.out.trans ((HB6.out.trans (p.h.mono hs6)).mono HB4.out.size))) HT.out.2.f)
              go_wp2_with fail
              refine wp_region_quiet_later hm0 (by kernel_rfl) ?_
              repeat (quiet_step ((go_at_call 27; exact Calls.later_of (HK2.out _))))
              refine wpQuiet_nil ?_
              rintro _ ⟨pp, rfl⟩
              have hb7 := pp.h
              obtain ⟨w7, hw7⟩ : ∃ w7, w7 = pp.v := ⟨_, rfl⟩
              rw [← hw7] at hb7
              simp only [← hw7]
              clear hw7 m0 m1 m2 m3 m4 cl
              have HB7 := Lib.hid (HB6.out.trans (hb7.mono hs6))
              have HTw7 := Lib.hid (HTw6.out.to hb7)
              have hs7 := HB7.out.size
              clear hb7
              have cl7 := (HB7.out.cell (p := ⟨gL, oL + k, none⟩) hgL).trans HCL2.out
              go_wp2_with (at_builtin; refine wpList_append_own_at _ rfl _ _ 29 rfl w4.heap.size 21 j0 (.int .i32 0) 1 4 Tryz.underlying29 hj hy0 hy1 hy2 rfl (by decide) (.slice py Y.length cy) Y.length (Y.map (Value.int .i32)) rfl (HTw7.out.fy.alloc _) ⟨w7.heap.size, 0, none⟩ 1 1 [.int .i32 s] rfl rfl (by first | exact lit32 w7 s | (have := lit32 w7 s; simpa using this)) (one32 s) (by unfold maxLen; omega) (by omega) (by first | omega | (simp; omega)) ?_; intro v8 w8 hown8 hgrow8 _ hat8; have HTw8 : Hid (Two w8 w4.heap.size v8 (.slice px6 (X ++ [r]).length cx6) (Y ++ [s]) (X ++ [r])) := Lib.hid ((HTw7.out.swap.alloc _).put hown8 hgrow8 hat8); have HB8 : Hid (Below w4.heap.size w4 w8) := Lib.hid (bel_grown (v := .slice py Y.length cy) (HB7.out.alloc (by first | omega | (simp; omega)) _) (HTw7.out.fy.alloc _) hgrow8 (by first | omega | (simp; omega))); clear hown8 hgrow8 hat8 cl7; obtain ⟨py8, cy8, rfl, _⟩ := HTw8.out.fx.form)
              go_roundw
              case rel =>
                refine ⟨k + 1, _, _, rfl, rfl, by go_num, by omega, Lib.hid ?_, HB8.out⟩
                rw [HX.out.2, HY.out.2, if_pos HC1.out, if_pos HC2.out, ← HX.out.1, ← HY.out.1]
                have hf := HTw8.out.swap
                try simp only [List.length_append, List.length_singleton] at hf
                exact hf
              case measure => simp [intOf]; omega
            · have e2 : (cs == (c : Int)) = false := by simpa using h2
              have HC2 : Hid (¬ (cls q.T s == (c : Int)) = true) := Lib.hid (by rw [HS.out.2, e2]; simp)
              clear h2
              go_wp2_with fail
              refine wp_region_quiet_later hm0 (by kernel_rfl) ?_
              repeat (quiet_step ((go_at_call 27; exact Calls.later_of (HK1.out _))))
              refine wpQuiet_nil ?_
              rintro _ ⟨pp, rfl⟩
              have hb5 := pp.h
              obtain ⟨w5, hw5⟩ : ∃ w5, w5 = pp.v := ⟨_, rfl⟩
              rw [← hw5] at hb5
              simp only [← hw5]
              clear hw5 m0 m1 m2 m3 m4 cl
              have HB5 := Lib.hid (HB.out.trans (hb5.mono HB.out.size))
              have HTw5 := Lib.hid (HTw.out.to hb5)
              have HG5 := Lib.hid (HG.out.to HB5.out)
              have hs5 := HB5.out.size
              clear hb5
              have cl5 := (HB5.out.cell (p := ⟨gl, ol + k, none⟩) hgl).trans HCL.out
              go_wp2_with (at_builtin; refine wpList_append_own_at _ rfl _ _ 29 rfl w4.heap.size 21 j0 (.int .i32 0) 1 4 Tryz.underlying29 hj hy0 hy1 hy2 rfl (by decide) (.slice px X.length cx) X.length (X.map (Value.int .i32)) rfl (HTw5.out.fx.alloc _) ⟨w5.heap.size, 0, none⟩ 1 1 [.int .i32 r] rfl rfl (by first | exact lit32 w5 r | (have := lit32 w5 r; simpa using this)) (one32 r) (by unfold maxLen; omega) (by omega) (by first | omega | (simp; omega)) ?_; intro v6 w6 hown6 hgrow6 _ hat6; have HTw6 : Hid (Two w6 w4.heap.size v6 (.slice py Y.length cy) (X ++ [r]) Y) := Lib.hid ((HTw5.out.alloc _).put hown6 hgrow6 hat6); have HB6 : Hid (Below w4.heap.size w4 w6) := Lib.hid (bel_grown (v := .slice px X.length cx) (HB5.out.alloc (by first | omega | (simp; omega)) _) (HTw5.out.fx.alloc _) hgrow6 (by first | omega | (simp; omega))); clear hown6 hgrow6 hat6 cl5; obtain ⟨px6, cx6, rfl, _⟩ := HTw6.out.fx.form)
              have hs6 := HB6.out.size
              have HG6 := Lib.hid (HG.out.to HB6.out)
              have m0 : ∀ p : Later w6, p.v.cell? ⟨w.heap.size, 0, none⟩ = some (.slice q.p0 q.T.spans.length q.c0) := fun p => p.c (HG6.out.cell 0 rfl) HG6.out.lt
              have m1 : ∀ p : Later w6, p.v.cell? ⟨w.heap.size, 1, none⟩ = some (.slice q.p1 q.T.classes.length q.c1) := fun p => p.c (HG6.out.cell 1 rfl) HG6.out.lt
              have m2 : ∀ p : Later w6, p.v.cell? ⟨w.heap.size, 2, none⟩ = some (.slice q.p2 q.T.pairs.length q.c2) := fun p => p.c (HG6.out.cell 2 rfl) HG6.out.lt
              have m3 : ∀ p : Later w6, p.v.cell? ⟨w.heap.size, 3, none⟩ = some (.slice q.p3 q.T.ways.length q.c3) := fun p => p.c (HG6.out.cell 3 rfl) HG6.out.lt
              have m4 : ∀ p : Later w6, p.v.cell? ⟨w.heap.size, 4, none⟩ = some (.slice q.p4 q.T.joins.length q.c4) := fun p => p.c (HG6.out.cell 4 rfl) HG6.out.lt
              have cl : ∀ p : Later w6, p.v.cell? ⟨gL, oL + k, none⟩ = some (.int .i32 s) := fun p => p.c ((HB6.out.cell (p := ⟨gL, oL + k, none⟩) hgL).trans HCL2.out) (Nat.lt_of_lt_of_le hgL hs6)
              have HK2 := Lib.hid (show ∀ p : Later w6, Calls Tryz.prog 27 #[q.v, .int .i32 s] p.v fun e w' => e = .returned (.int .u8 cs) ∧ Below p.v.heap.size p.v w' from fun p => class_is q s cs HS.out.2 p.v (HT.out.1.below (HB4.out.trans ((HB6.out.trans (p.h.mono hs6)).mono HB4.out.size))) HT.out.2.f)
              go_wp2_with fail
              refine wp_region_quiet_later hm0 (by kernel_rfl) ?_
              repeat (quiet_step ((go_at_call 27; exact Calls.later_of (HK2.out _))))
              refine wpQuiet_nil ?_
              rintro _ ⟨pp, rfl⟩
              have hb7 := pp.h
              obtain ⟨w7, hw7⟩ : ∃ w7, w7 = pp.v := ⟨_, rfl⟩
              rw [← hw7] at hb7
              simp only [← hw7]
              clear hw7 m0 m1 m2 m3 m4 cl
              have HB7 := Lib.hid (HB6.out.trans (hb7.mono hs6))
              have HTw7 := Lib.hid (HTw6.out.to hb7)
              have hs7 := HB7.out.size
              clear hb7
              go_wp2_with fail
              go_roundw
              case rel =>
                refine ⟨k + 1, _, _, rfl, rfl, by go_num, by omega, Lib.hid ?_, HB7.out⟩
                rw [HX.out.2, HY.out.2, if_pos HC1.out, if_neg HC2.out, List.append_nil, ← HX.out.1, ← HY.out.1]
                have hf := HTw7.out
                try simp only [List.length_append, List.length_singleton] at hf
                exact hf
              case measure => simp [intOf]; omega
          · have e1 : (cr == (c : Int)) = false := by simpa using h1
            have HC1 : Hid (¬ (cls q.T r == (c : Int)) = true) := Lib.hid (by rw [HR.out.2, e1]; simp)
            clear h1
            by_cases h2 : cs = (c : Int)
            · have e2 : (cs == (c : Int)) = true := by simpa using h2
              have HC2 : Hid ((cls q.T s == (c : Int)) = true) := Lib.hid (by rw [HS.out.2]; exact e2)
              clear h2
              go_wp2_with fail
              refine wp_region_quiet_later hm0 (by kernel_rfl) ?_
              repeat (quiet_step ((go_at_call 27; exact Calls.later_of (HK1.out _))))
              refine wpQuiet_nil ?_
              rintro _ ⟨pp, rfl⟩
              have hb5 := pp.h
              obtain ⟨w5, hw5⟩ : ∃ w5, w5 = pp.v := ⟨_, rfl⟩
              rw [← hw5] at hb5
              simp only [← hw5]
              clear hw5 m0 m1 m2 m3 m4 cl
              have HB5 := Lib.hid (HB.out.trans (hb5.mono HB.out.size))
              have HTw5 := Lib.hid (HTw.out.to hb5)
              have HG5 := Lib.hid (HG.out.to HB5.out)
              have hs5 := HB5.out.size
              clear hb5
              have m0 : ∀ p : Later w5, p.v.cell? ⟨w.heap.size, 0, none⟩ = some (.slice q.p0 q.T.spans.length q.c0) := fun p => p.c (HG5.out.cell 0 rfl) HG5.out.lt
              have m1 : ∀ p : Later w5, p.v.cell? ⟨w.heap.size, 1, none⟩ = some (.slice q.p1 q.T.classes.length q.c1) := fun p => p.c (HG5.out.cell 1 rfl) HG5.out.lt
              have m2 : ∀ p : Later w5, p.v.cell? ⟨w.heap.size, 2, none⟩ = some (.slice q.p2 q.T.pairs.length q.c2) := fun p => p.c (HG5.out.cell 2 rfl) HG5.out.lt
              have m3 : ∀ p : Later w5, p.v.cell? ⟨w.heap.size, 3, none⟩ = some (.slice q.p3 q.T.ways.length q.c3) := fun p => p.c (HG5.out.cell 3 rfl) HG5.out.lt
              have m4 : ∀ p : Later w5, p.v.cell? ⟨w.heap.size, 4, none⟩ = some (.slice q.p4 q.T.joins.length q.c4) := fun p => p.c (HG5.out.cell 4 rfl) HG5.out.lt
              have cl : ∀ p : Later w5, p.v.cell? ⟨gL, oL + k, none⟩ = some (.int .i32 s) := fun p => p.c ((HB5.out.cell (p := ⟨gL, oL + k, none⟩) hgL).trans HCL2.out) (Nat.lt_of_lt_of_le hgL hs5)
              have HK2 := Lib.hid (show ∀ p : Later w5, Calls Tryz.prog 27 #[q.v, .int .i32 s] p.v fun e w' => e = .returned (.int .u8 cs) ∧ Below p.v.heap.size p.v w' from fun p => class_is q s cs HS.out.2 p.v (HT.out.1.below (HB4.out.trans ((HB5.out.trans (p.h.mono hs5)).mono HB4.out.size))) HT.out.2.f)
              go_wp2_with fail
              refine wp_region_quiet_later hm0 (by kernel_rfl) ?_
              repeat (quiet_step ((go_at_call 27; exact Calls.later_of (HK2.out _))))
              refine wpQuiet_nil ?_
              rintro _ ⟨pp, rfl⟩
              have hb7 := pp.h
              obtain ⟨w7, hw7⟩ : ∃ w7, w7 = pp.v := ⟨_, rfl⟩
              rw [← hw7] at hb7
              simp only [← hw7]
              clear hw7 m0 m1 m2 m3 m4 cl
              have HB7 := Lib.hid (HB5.out.trans (hb7.mono hs5))
              have HTw7 := Lib.hid (HTw5.out.to hb7)
              have hs7 := HB7.out.size
              clear hb7
              have cl7 := (HB7.out.cell (p := ⟨gL, oL + k, none⟩) hgL).trans HCL2.out
              go_wp2_with (at_builtin; refine wpList_append_own_at _ rfl _ _ 29 rfl w4.heap.size 21 j0 (.int .i32 0) 1 4 Tryz.underlying29 hj hy0 hy1 hy2 rfl (by decide) (.slice py Y.length cy) Y.length (Y.map (Value.int .i32)) rfl (HTw7.out.fy.alloc _) ⟨w7.heap.size, 0, none⟩ 1 1 [.int .i32 s] rfl rfl (by first | exact lit32 w7 s | (have := lit32 w7 s; simpa using this)) (one32 s) (by unfold maxLen; omega) (by omega) (by first | omega | (simp; omega)) ?_; intro v8 w8 hown8 hgrow8 _ hat8; have HTw8 : Hid (Two w8 w4.heap.size v8 (.slice px X.length cx) (Y ++ [s]) X) := Lib.hid ((HTw7.out.swap.alloc _).put hown8 hgrow8 hat8); have HB8 : Hid (Below w4.heap.size w4 w8) := Lib.hid (bel_grown (v := .slice py Y.length cy) (HB7.out.alloc (by first | omega | (simp; omega)) _) (HTw7.out.fy.alloc _) hgrow8 (by first | omega | (simp; omega))); clear hown8 hgrow8 hat8 cl7; obtain ⟨py8, cy8, rfl, _⟩ := HTw8.out.fx.form)
              go_roundw
              case rel =>
                refine ⟨k + 1, _, _, rfl, rfl, by go_num, by omega, Lib.hid ?_, HB8.out⟩
                rw [HX.out.2, HY.out.2, if_neg HC1.out, List.append_nil, if_pos HC2.out, ← HX.out.1, ← HY.out.1]
                have hf := HTw8.out.swap
                try simp only [List.length_append, List.length_singleton] at hf
                exact hf
              case measure => simp [intOf]; omega
            · have e2 : (cs == (c : Int)) = false := by simpa using h2
              have HC2 : Hid (¬ (cls q.T s == (c : Int)) = true) := Lib.hid (by rw [HS.out.2, e2]; simp)
              clear h2
              go_wp2_with fail
              refine wp_region_quiet_later hm0 (by kernel_rfl) ?_
              repeat (quiet_step ((go_at_call 27; exact Calls.later_of (HK1.out _))))
              refine wpQuiet_nil ?_
              rintro _ ⟨pp, rfl⟩
              have hb5 := pp.h
              obtain ⟨w5, hw5⟩ : ∃ w5, w5 = pp.v := ⟨_, rfl⟩
              rw [← hw5] at hb5
              simp only [← hw5]
              clear hw5 m0 m1 m2 m3 m4 cl
              have HB5 := Lib.hid (HB.out.trans (hb5.mono HB.out.size))
              have HTw5 := Lib.hid (HTw.out.to hb5)
              have HG5 := Lib.hid (HG.out.to HB5.out)
              have hs5 := HB5.out.size
              clear hb5
              have m0 : ∀ p : Later w5, p.v.cell? ⟨w.heap.size, 0, none⟩ = some (.slice q.p0 q.T.spans.length q.c0) := fun p => p.c (HG5.out.cell 0 rfl) HG5.out.lt
              have m1 : ∀ p : Later w5, p.v.cell? ⟨w.heap.size, 1, none⟩ = some (.slice q.p1 q.T.classes.length q.c1) := fun p => p.c (HG5.out.cell 1 rfl) HG5.out.lt
              have m2 : ∀ p : Later w5, p.v.cell? ⟨w.heap.size, 2, none⟩ = some (.slice q.p2 q.T.pairs.length q.c2) := fun p => p.c (HG5.out.cell 2 rfl) HG5.out.lt
              have m3 : ∀ p : Later w5, p.v.cell? ⟨w.heap.size, 3, none⟩ = some (.slice q.p3 q.T.ways.length q.c3) := fun p => p.c (HG5.out.cell 3 rfl) HG5.out.lt
              have m4 : ∀ p : Later w5, p.v.cell? ⟨w.heap.size, 4, none⟩ = some (.slice q.p4 q.T.joins.length q.c4) := fun p => p.c (HG5.out.cell 4 rfl) HG5.out.lt
              have cl : ∀ p : Later w5, p.v.cell? ⟨gL, oL + k, none⟩ = some (.int .i32 s) := fun p => p.c ((HB5.out.cell (p := ⟨gL, oL + k, none⟩) hgL).trans HCL2.out) (Nat.lt_of_lt_of_le hgL hs5)
              have HK2 := Lib.hid (show ∀ p : Later w5, Calls Tryz.prog 27 #[q.v, .int .i32 s] p.v fun e w' => e = .returned (.int .u8 cs) ∧ Below p.v.heap.size p.v w' from fun p => class_is q s cs HS.out.2 p.v (HT.out.1.below (HB4.out.trans ((HB5.out.trans (p.h.mono hs5)).mono HB4.out.size))) HT.out.2.f)
              go_wp2_with fail
              refine wp_region_quiet_later hm0 (by kernel_rfl) ?_
              repeat (quiet_step ((go_at_call 27; exact Calls.later_of (HK2.out _))))
              refine wpQuiet_nil ?_
              rintro _ ⟨pp, rfl⟩
              have hb7 := pp.h
              obtain ⟨w7, hw7⟩ : ∃ w7, w7 = pp.v := ⟨_, rfl⟩
              rw [← hw7] at hb7
              simp only [← hw7]
              clear hw7 m0 m1 m2 m3 m4 cl
              have HB7 := Lib.hid (HB5.out.trans (hb7.mono hs5))
              have HTw7 := Lib.hid (HTw5.out.to hb7)
              have hs7 := HB7.out.size
              clear hb7
              go_wp2_with fail
              go_roundw
              case rel =>
                refine ⟨k + 1, _, _, rfl, rfl, by go_num, by omega, Lib.hid ?_, HB7.out⟩
                rw [HX.out.2, HY.out.2, if_neg HC1.out, List.append_nil, if_neg HC2.out, List.append_nil, ← HX.out.1, ← HY.out.1]
                have hf := HTw7.out
                try simp only [List.length_append, List.length_singleton] at hf
                exact hf
              case measure => simp [intOf]; omega
        · have hk2 : k = l.length := by omega
          subst hk2
          have HTw9 := Lib.hid (HTw.out.cast (X' := l.filter (fun x => cls q.T x == (c : Int))) (Y' := l.filter (fun x => cls q.T x == (c : Int))) (by rw [List.take_of_length_le (Nat.le_refl _)]) (by rw [List.take_of_length_le (by have := HLl.out; omega), HFI.out]))
          obtain ⟨X, hX⟩ : ∃ X, X = l.filter (fun x => cls q.T x == (c : Int)) := ⟨_, rfl⟩
          have hXl : X.length ≤ l.length := by rw [hX]; exact List.length_filter_le _ _
          rw [← hX] at HTw9
          obtain ⟨px, cx, rfl, _⟩ := HTw9.out.fx.form
          obtain ⟨py, cy, rfl, _⟩ := HTw9.out.fy.form
          clear hX HTw
          go_wp2_with fail
          refine (same_is _ _ X X true (by simp) (by omega) _ HTw9.out.fx.at HTw9.out.fy.at).mono ?_
          rintro e w9 ⟨rfl, hb9⟩
          have HB9 := Lib.hid (HB.out.trans (hb9.mono HB.out.size))
          clear hb9
          go_wp2
          go_roundw
          case rel => exact ⟨c + 1, by go_num, by omega, HB9.out⟩
          case measure => simp [intOf]; omega
    · have hc2 : c = 256 := by omega
      subst hc2
      go_wp2
      obtain ⟨wo, rfl⟩ : ∃ wo, wo = wr := ⟨_, rfl⟩
      go_loopw [77] (fun kv wr => ∃ k : Nat, kv = .int .i64 k ∧ k ≤ l.length ∧ Below w4.heap.size w4 wr) (fun kv _ => l.length - (intOf kv).toNat)
      case atStart => exact ⟨0, rfl, Nat.zero_le _, HBo.out⟩
      case round =>
        obtain ⟨k, rfl, hk, hB⟩ := hrel
        have HB := Lib.hid hB
        clear hB
        by_cases hlk : k < l.length
        · have hlkz : (k : Int) < (l.length : Int) := by omega
          have hLk : k < L.length := by have := HLl.out; omega
          have hLkz : (k : Int) < (L.length : Int) := by omega
          obtain ⟨pl, capl, hpl, hcl⟩ := HOl.out
          simp only [Value.slice.injEq] at hpl
          obtain ⟨rfl, _, rfl⟩ := hpl
          obtain ⟨pL, capL, hpL, hcL⟩ := HOL.out
          simp only [Value.slice.injEq] at hpL
          obtain ⟨rfl, _, rfl⟩ := hpL
          obtain ⟨r, hr⟩ : ∃ r, l[k]? = some r := ⟨_, List.getElem?_eq_getElem hlk⟩
          obtain ⟨s, hs⟩ : ∃ s, L[k]? = some s := ⟨_, List.getElem?_eq_getElem hLk⟩
          obtain ⟨gl, ol, rfl, hgl, hxl⟩ := hcl k r hr
          obtain ⟨gL, oL, rfl, hgL, hxL⟩ := hcL k s hs
          have HCL := Lib.hid hxl
          have HCL2 := Lib.hid hxL
          obtain ⟨cr, hcr⟩ : ∃ cr, cls q.T r = cr := ⟨_, rfl⟩
          obtain ⟨cs, hcs⟩ : ∃ cs, cls q.T s = cs := ⟨_, rfl⟩
          have hz : (cr == 0) = (cs == 0) := by have := HZE.out k r s hr hs; rw [hcr, hcs] at this; exact this
          have HR := Lib.hid (And.intro hr hcr)
          have HS := Lib.hid (And.intro hs hcs)
          have HPC := Lib.hid hcL
          clear hcr hcs hr hs hxl hxL hcl hcL
          have m0 : ∀ p : Later wr, p.v.cell? ⟨w.heap.size, 0, none⟩ = some (.slice q.p0 q.T.spans.length q.c0) := fun p => p.c ((HG.out.to HB.out).cell 0 rfl) (HG.out.to HB.out).lt
          have m1 : ∀ p : Later wr, p.v.cell? ⟨w.heap.size, 1, none⟩ = some (.slice q.p1 q.T.classes.length q.c1) := fun p => p.c ((HG.out.to HB.out).cell 1 rfl) (HG.out.to HB.out).lt
          have m2 : ∀ p : Later wr, p.v.cell? ⟨w.heap.size, 2, none⟩ = some (.slice q.p2 q.T.pairs.length q.c2) := fun p => p.c ((HG.out.to HB.out).cell 2 rfl) (HG.out.to HB.out).lt
          have m3 : ∀ p : Later wr, p.v.cell? ⟨w.heap.size, 3, none⟩ = some (.slice q.p3 q.T.ways.length q.c3) := fun p => p.c ((HG.out.to HB.out).cell 3 rfl) (HG.out.to HB.out).lt
          have m4 : ∀ p : Later wr, p.v.cell? ⟨w.heap.size, 4, none⟩ = some (.slice q.p4 q.T.joins.length q.c4) := fun p => p.c ((HG.out.to HB.out).cell 4 rfl) (HG.out.to HB.out).lt
          have cl : ∀ p : Later wr, p.v.cell? ⟨gl, ol + k, none⟩ = some (.int .i32 r) := fun p => p.c ((HB.out.cell (p := ⟨gl, ol + k, none⟩) hgl).trans HCL.out) (Nat.lt_of_lt_of_le hgl HB.out.size)
          have cl2 : ∀ p : Later wr, p.v.cell? ⟨gL, oL + k, none⟩ = some (.int .i32 s) := fun p => p.c ((HB.out.cell (p := ⟨gL, oL + k, none⟩) hgL).trans HCL2.out) (Nat.lt_of_lt_of_le hgL HB.out.size)
          have HK1 := Lib.hid (show ∀ p : Later wr, Calls Tryz.prog 27 #[q.v, .int .i32 r] p.v fun e w' => e = .returned (.int .u8 cr) ∧ Below p.v.heap.size p.v w' from fun p => class_is q r cr HR.out.2 p.v (HT.out.1.below (HB4.out.trans ((HB.out.trans (p.h.mono HB.out.size)).mono HB4.out.size))) HT.out.2.f)
          have HK2 := Lib.hid (show ∀ p : Later wr, Calls Tryz.prog 27 #[q.v, .int .i32 s] p.v fun e w' => e = .returned (.int .u8 cs) ∧ Below p.v.heap.size p.v w' from fun p => class_is q s cs HS.out.2 p.v (HT.out.1.below (HB4.out.trans ((HB.out.trans (p.h.mono HB.out.size)).mono HB4.out.size))) HT.out.2.f)
          by_cases h2 : cs = 0
          · have e2 : (cs == 0) = true := by simpa using h2
            have e1 : (cr == 0) = true := by rw [hz]; exact e2
            have e3 : (cs != 0) = false := by simp [h2]
            clear h2 hz
            by_cases h0 : k = 0
            · have hd0 : decide ((0 : Int) < (k : Int)) = false := decide_eq_false (by omega)
              have hdn : decide (0 < k) = false := decide_eq_false (by omega)
              clear h0
              go_wp2_with fail
              refine wp_region_quiet_later hm0 (by kernel_rfl) ?_
              repeat (go_big_quiet_step (fail))
              go_big_quiet_step ((go_at_call 27; exact Calls.later_of (HK1.out _)))
              repeat (go_big_quiet_step (fail))
              go_big_quiet_step ((go_at_call 27; exact Calls.later_of (HK2.out _)))
              repeat (go_big_quiet_step (fail))
              refine wpQuiet_nil ?_
              rintro _ ⟨pp, rfl⟩
              have hb5 := pp.h
              obtain ⟨w5, hw5⟩ : ∃ w5, w5 = pp.v := ⟨_, rfl⟩
              rw [← hw5] at hb5
              simp only [← hw5]
              clear hw5 m0 m1 m2 m3 m4 cl cl2
              have HB5 := Lib.hid (HB.out.trans (hb5.mono HB.out.size))
              have HG5 := Lib.hid (HG.out.to HB5.out)
              have hs5 := HB5.out.size
              clear hb5
              have HK3 : Hid (∀ p : Later w5, True) := Lib.hid (fun _ => trivial)
              have HK4 := HK3
              go_wp2_with fail
              refine wp_region_quiet_later hm0 (by kernel_rfl) ?_
              repeat (go_big_quiet_step (fail))
              refine wpQuiet_nil ?_
              rintro _ ⟨pp, rfl⟩
              have hb7 := pp.h
              obtain ⟨w7, hw7⟩ : ∃ w7, w7 = pp.v := ⟨_, rfl⟩
              rw [← hw7] at hb7
              simp only [← hw7]
              clear hw7
              have HB7 := Lib.hid (HB5.out.trans (hb7.mono hs5))
              clear hb7
              go_wp2
              go_roundw
              case rel => exact ⟨k + 1, by go_num, by omega, HB7.out⟩
              case measure => simp [intOf]; omega
            · have hd0 : decide ((0 : Int) < (k : Int)) = true := decide_eq_true (by omega)
              obtain ⟨kp, hkp⟩ : ∃ kp, k = kp + 1 := ⟨k - 1, by omega⟩
              have wk : IntKind.i64.wrap ((k : Int) - 1) = (kp : Int) := by rw [IntWalk.i64_in _ (by omega)]; omega
              have hkpl : kp < L.length := by omega
              have HKP := Lib.hid hkp
              have hdn : decide (0 < k) = true := decide_eq_true (by omega)
              clear h0 hkp
              go_wp2_with fail
              refine wp_region_quiet_later hm0 (by kernel_rfl) ?_
              repeat (go_big_quiet_step (fail))
              go_big_quiet_step ((go_at_call 27; exact Calls.later_of (HK1.out _)))
              repeat (go_big_quiet_step (fail))
              go_big_quiet_step ((go_at_call 27; exact Calls.later_of (HK2.out _)))
              repeat (go_big_quiet_step (fail))
              refine wpQuiet_nil ?_
              rintro _ ⟨pp, rfl⟩
              have hb5 := pp.h
              obtain ⟨w5, hw5⟩ : ∃ w5, w5 = pp.v := ⟨_, rfl⟩
              rw [← hw5] at hb5
              simp only [← hw5]
              clear hw5 m0 m1 m2 m3 m4 cl cl2
              have HB5 := Lib.hid (HB.out.trans (hb5.mono HB.out.size))
              have HG5 := Lib.hid (HG.out.to HB5.out)
              have hs5 := HB5.out.size
              clear hb5
              have m0 : ∀ p : Later w5, p.v.cell? ⟨w.heap.size, 0, none⟩ = some (.slice q.p0 q.T.spans.length q.c0) := fun p => p.c (HG5.out.cell 0 rfl) HG5.out.lt
              have m1 : ∀ p : Later w5, p.v.cell? ⟨w.heap.size, 1, none⟩ = some (.slice q.p1 q.T.classes.length q.c1) := fun p => p.c (HG5.out.cell 1 rfl) HG5.out.lt
              have m2 : ∀ p : Later w5, p.v.cell? ⟨w.heap.size, 2, none⟩ = some (.slice q.p2 q.T.pairs.length q.c2) := fun p => p.c (HG5.out.cell 2 rfl) HG5.out.lt
              have m3 : ∀ p : Later w5, p.v.cell? ⟨w.heap.size, 3, none⟩ = some (.slice q.p3 q.T.ways.length q.c3) := fun p => p.c (HG5.out.cell 3 rfl) HG5.out.lt
              have m4 : ∀ p : Later w5, p.v.cell? ⟨w.heap.size, 4, none⟩ = some (.slice q.p4 q.T.joins.length q.c4) := fun p => p.c (HG5.out.cell 4 rfl) HG5.out.lt
              have cl2 : ∀ p : Later w5, p.v.cell? ⟨gL, oL + k, none⟩ = some (.int .i32 s) := fun p => p.c ((HB5.out.cell (p := ⟨gL, oL + k, none⟩) hgL).trans HCL2.out) (Nat.lt_of_lt_of_le hgL hs5)
              have HK3 := Lib.hid (show ∀ p : Later w5, Calls Tryz.prog 27 #[q.v, .int .i32 s] p.v fun e w' => e = .returned (.int .u8 cs) ∧ Below p.v.heap.size p.v w' from fun p => class_is q s cs HS.out.2 p.v (HT.out.1.below (HB4.out.trans ((HB5.out.trans (p.h.mono hs5)).mono HB4.out.size))) HT.out.2.f)
              have HK4 := HK3
              go_wp2_with fail
              refine wp_region_quiet_later hm0 (by kernel_rfl) ?_
              repeat (go_big_quiet_step (fail))
              go_big_quiet_step ((go_at_call 27; exact Calls.later_of (HK3.out _)))
              repeat (go_big_quiet_step (fail))
              refine wpQuiet_nil ?_
              rintro _ ⟨pp, rfl⟩
              have hb7 := pp.h
              obtain ⟨w7, hw7⟩ : ∃ w7, w7 = pp.v := ⟨_, rfl⟩
              rw [← hw7] at hb7
              simp only [← hw7]
              clear hw7
              have HB7 := Lib.hid (HB5.out.trans (hb7.mono hs5))
              clear hb7
              go_wp2
              go_roundw
              case rel => exact ⟨k + 1, by go_num, by omega, HB7.out⟩
              case measure => simp [intOf]; omega
          · have e2 : (cs == 0) = false := by simpa using h2
            have e1 : (cr == 0) = false := by rw [hz]; exact e2
            have e3 : (cs != 0) = true := by simp [h2]
            clear hz
            by_cases h0 : k = 0
            · have hd0 : decide ((0 : Int) < (k : Int)) = false := decide_eq_false (by omega)
              have hdn : decide (0 < k) = false := decide_eq_false (by omega)
              clear h0
              go_wp2_with fail
              refine wp_region_quiet_later hm0 (by kernel_rfl) ?_
              repeat (go_big_quiet_step (fail))
              go_big_quiet_step ((go_at_call 27; exact Calls.later_of (HK1.out _)))
              repeat (go_big_quiet_step (fail))
              go_big_quiet_step ((go_at_call 27; exact Calls.later_of (HK2.out _)))
              repeat (go_big_quiet_step (fail))
              refine wpQuiet_nil ?_
              rintro _ ⟨pp, rfl⟩
              have hb5 := pp.h
              obtain ⟨w5, hw5⟩ : ∃ w5, w5 = pp.v := ⟨_, rfl⟩
              rw [← hw5] at hb5
              simp only [← hw5]
              clear hw5 m0 m1 m2 m3 m4 cl cl2
              have HB5 := Lib.hid (HB.out.trans (hb5.mono HB.out.size))
              have HG5 := Lib.hid (HG.out.to HB5.out)
              have hs5 := HB5.out.size
              clear hb5
              have HK3 : Hid (∀ p : Later w5, True) := Lib.hid (fun _ => trivial)
              have HK4 := HK3
              go_wp2_with fail
              refine wp_region_quiet_later hm0 (by kernel_rfl) ?_
              repeat (go_big_quiet_step (fail))
              refine wpQuiet_nil ?_
              rintro _ ⟨pp, rfl⟩
              have hb7 := pp.h
              obtain ⟨w7, hw7⟩ : ∃ w7, w7 = pp.v := ⟨_, rfl⟩
              rw [← hw7] at hb7
              simp only [← hw7]
              clear hw7
              have HB7 := Lib.hid (HB5.out.trans (hb7.mono hs5))
              clear hb7
              go_wp2
              go_roundw
              case rel => exact ⟨k + 1, by go_num, by omega, HB7.out⟩
              case measure => simp [intOf]; omega
            · have hd0 : decide ((0 : Int) < (k : Int)) = true := decide_eq_true (by omega)
              obtain ⟨kp, hkp⟩ : ∃ kp, k = kp + 1 := ⟨k - 1, by omega⟩
              have wk : IntKind.i64.wrap ((k : Int) - 1) = (kp : Int) := by rw [IntWalk.i64_in _ (by omega)]; omega
              have hkpl : kp < L.length := by omega
              have HKP := Lib.hid hkp
              have hdn : decide (0 < k) = true := decide_eq_true (by omega)
              clear h0 hkp
              go_wp2_with fail
              refine wp_region_quiet_later hm0 (by kernel_rfl) ?_
              repeat (go_big_quiet_step (fail))
              go_big_quiet_step ((go_at_call 27; exact Calls.later_of (HK1.out _)))
              repeat (go_big_quiet_step (fail))
              go_big_quiet_step ((go_at_call 27; exact Calls.later_of (HK2.out _)))
              repeat (go_big_quiet_step (fail))
              refine wpQuiet_nil ?_
              rintro _ ⟨pp, rfl⟩
              have hb5 := pp.h
              obtain ⟨w5, hw5⟩ : ∃ w5, w5 = pp.v := ⟨_, rfl⟩
              rw [← hw5] at hb5
              simp only [← hw5]
              clear hw5 m0 m1 m2 m3 m4 cl cl2
              have HB5 := Lib.hid (HB.out.trans (hb5.mono HB.out.size))
              have HG5 := Lib.hid (HG.out.to HB5.out)
              have hs5 := HB5.out.size
              clear hb5
              obtain ⟨a, ha⟩ : ∃ a, L[kp]? = some a := ⟨_, List.getElem?_eq_getElem (by omega)⟩
              obtain ⟨ca, hca⟩ : ∃ ca, cls q.T a = ca := ⟨_, rfl⟩
              have hno : decide (cs < ca) = false := by
                refine decide_eq_false (fun h => ?_)
                rcases HAD.out kp a s ha (by rw [← HKP.out]; exact HS.out.1) with h1 | h1
                · rw [HS.out.2] at h1; exact h2 h1
                · rw [HS.out.2, hca] at h1; omega
              obtain ⟨g9, o9, hg9, _, hxa⟩ := HPC.out kp a ha
              simp only [Option.some.injEq, Addr.mk.injEq, and_true] at hg9
              obtain ⟨rfl, rfl⟩ := hg9
              have HCA := Lib.hid hxa
              have HA := Lib.hid hca
              clear ha hca hxa h2
              have m0 : ∀ p : Later w5, p.v.cell? ⟨w.heap.size, 0, none⟩ = some (.slice q.p0 q.T.spans.length q.c0) := fun p => p.c (HG5.out.cell 0 rfl) HG5.out.lt
              have m1 : ∀ p : Later w5, p.v.cell? ⟨w.heap.size, 1, none⟩ = some (.slice q.p1 q.T.classes.length q.c1) := fun p => p.c (HG5.out.cell 1 rfl) HG5.out.lt
              have m2 : ∀ p : Later w5, p.v.cell? ⟨w.heap.size, 2, none⟩ = some (.slice q.p2 q.T.pairs.length q.c2) := fun p => p.c (HG5.out.cell 2 rfl) HG5.out.lt
              have m3 : ∀ p : Later w5, p.v.cell? ⟨w.heap.size, 3, none⟩ = some (.slice q.p3 q.T.ways.length q.c3) := fun p => p.c (HG5.out.cell 3 rfl) HG5.out.lt
              have m4 : ∀ p : Later w5, p.v.cell? ⟨w.heap.size, 4, none⟩ = some (.slice q.p4 q.T.joins.length q.c4) := fun p => p.c (HG5.out.cell 4 rfl) HG5.out.lt
              have cl2 : ∀ p : Later w5, p.v.cell? ⟨gL, oL + k, none⟩ = some (.int .i32 s) := fun p => p.c ((HB5.out.cell (p := ⟨gL, oL + k, none⟩) hgL).trans HCL2.out) (Nat.lt_of_lt_of_le hgL hs5)
              have cl3 : ∀ p : Later w5, p.v.cell? ⟨gL, oL + kp, none⟩ = some (.int .i32 a) := fun p => p.c ((HB5.out.cell (p := ⟨gL, oL + kp, none⟩) hgL).trans HCA.out) (Nat.lt_of_lt_of_le hgL hs5)
              have HK3 := Lib.hid (show ∀ p : Later w5, Calls Tryz.prog 27 #[q.v, .int .i32 s] p.v fun e w' => e = .returned (.int .u8 cs) ∧ Below p.v.heap.size p.v w' from fun p => class_is q s cs HS.out.2 p.v (HT.out.1.below (HB4.out.trans ((HB5.out.trans (p.h.mono hs5)).mono HB4.out.size))) HT.out.2.f)
              have HK4 := Lib.hid (show ∀ p : Later w5, Calls Tryz.prog 27 #[q.v, .int .i32 a] p.v fun e w' => e = .returned (.int .u8 ca) ∧ Below p.v.heap.size p.v w' from fun p => class_is q a ca HA.out p.v (HT.out.1.below (HB4.out.trans ((HB5.out.trans (p.h.mono hs5)).mono HB4.out.size))) HT.out.2.f)
              go_wp2_with fail
              refine wp_region_quiet_later hm0 (by kernel_rfl) ?_
              repeat (go_big_quiet_step (fail))
              go_big_quiet_step ((go_at_call 27; exact Calls.later_of (HK3.out _)))
              repeat (go_big_quiet_step (fail))
              go_big_quiet_step ((go_at_call 27; exact Calls.later_of (HK4.out _)))
              repeat (go_big_quiet_step (fail))
              go_big_quiet_step ((go_at_call 27; exact Calls.later_of (HK3.out _)))
              repeat (go_big_quiet_step (fail))
              refine wpQuiet_nil ?_
              rintro _ ⟨pp, rfl⟩
              have hb7 := pp.h
              obtain ⟨w7, hw7⟩ : ∃ w7, w7 = pp.v := ⟨_, rfl⟩
              rw [← hw7] at hb7
              simp only [← hw7]
              clear hw7
              have HB7 := Lib.hid (HB5.out.trans (hb7.mono hs5))
              clear hb7
              go_wp2
              go_roundw
              case rel => exact ⟨k + 1, by go_num, by omega, HB7.out⟩
              case measure => simp [intOf]; omega
        · have hk2 : k = l.length := by omega
          subst hk2
          go_wp2
          go_ret
          exact ⟨rfl, (HB4.out.trans (HB.out.mono HB4.out.size))⟩

end Go.Proofs.YtlpkcpacfldfaaaGreat
