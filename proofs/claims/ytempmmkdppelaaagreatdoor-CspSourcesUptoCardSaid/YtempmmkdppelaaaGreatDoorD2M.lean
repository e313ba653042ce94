import Derived.Test.YtempmmkdppelaaaGreatDoorWBM
import Derived.Laws.OwnMore
import Derived.Maps.AppendAt
import Derived.Test.YtempmmkdppelaaaGreatDoorPBM
import Derived.Deep.Quiet
import Derived.Deep.QuietTactic
import Derived.BigQuiet
import Derived.Shelf.Strings.FuncGrows
/-
  csp's word and right$1; slices.ContainsFunc over texts with it; fresh.Texts.
-/
namespace Go.Proofs.YtempmmkdppelaaaGreatDoor
open Go.RowKit
def blankS : ByteArray := ⟨#[9, 10, 12, 13, 32, 59]⟩
theorem blankS_asc : Asc blankS.data.toList := by
  intro b hb
  simp only [blankS, List.mem_cons, List.mem_nil_iff, or_false] at hb
  rcases hb with rfl | rfl | rfl | rfl | rfl | rfl <;> decide
/-- a text is one word -/
def wordB (s : ByteArray) : Bool := !s.toList.isEmpty && !Lib.containsAny s.data.toList blankS.data.toList
set_option maxHeartbeats 1000000 in
theorem word_is (s : ByteArray) (hs : s.size < 4294967281) (r : Bool) (hr : wordB s = r) (w : World) :
    Calls Tryz.prog 62 #[.string s] w fun e w' => e = .returned (.bool r) ∧ Below w.heap.size w w' := by
  have HR := Lib.hid hr
  clear hr
  cases he : s.toList.isEmpty with
  | true =>
    have hnil : s.toList = [] := by simpa using he
    have hr : r = false := by rw [← HR.out]; unfold wordB; rw [he]; rfl
    subst hr
    clear HR
    go_enter Tryz.func62, Tryz.ntmps62
    go_wp2
    go_ret
    exact ⟨rfl, Below.refl _ _⟩
  | false =>
    have hne : (!s.toList.isEmpty) = true := by rw [he]; rfl
    obtain ⟨b, hb⟩ : ∃ b, Lib.containsAny s.data.toList blankS.data.toList = b := ⟨_, rfl⟩
    have hr : r = !b := by rw [← HR.out]; unfold wordB; rw [he, hb]; rfl
    have HC := Lib.hid (fun W => containsAny_any s blankS W (by decide) hs blankS_asc (by decide) b hb)
    subst hr
    clear hb HR
    unfold blankS at HC
    go_enter Tryz.func62, Tryz.ntmps62
    go_wp2_with (go_at_call 85; refine (HC.out _).mono ?_; rintro e w1 ⟨rfl, hb1⟩; have HB1 := Lib.hid hb1; clear hb1)
    go_ret
    exact ⟨by simp, HB1.out⟩
set_option maxHeartbeats 1000000 in
theorem noWord_is (s : ByteArray) (hs : s.size < 4294967281) (r : Bool) (hr : (!wordB s) = r) (w : World) :
    Calls Tryz.prog 64 #[.string s] w fun e w' => e = .returned (.bool r) ∧ Below w.heap.size w w' := by
  have HC := Lib.hid (word_is s hs _ rfl w)
  have HR := Lib.hid hr
  clear hr
  generalize wordB s = x at *
  go_enter Tryz.func64, Tryz.ntmps64
  go_wp2_with fail
  refine HC.out.mono ?_
  rintro e w1 ⟨rfl, hb1⟩
  have HB1 := Lib.hid hb1
  clear hb1
  go_wp2
  go_ret
  exact ⟨ret_bool HR.out, HB1.out⟩
set_option maxHeartbeats 1000000 in
theorem indexNoWord (v : Value) (l : List ByteArray) (r : Int) (hr : idxI (fun s => !wordB s) l = r) (hm : l.length ≤ 140737488355328) (hz : ∀ x ∈ l, x.size < 4294967281) (w : World) (hv : Strs w v l) :
    Calls Tryz.prog 86 #[v, .func (.func 64) #[] #[]] w fun e w' => e = .returned (.int .i64 r) ∧ Below w.heap.size w w' := by
  obtain ⟨p, cap, rfl, hA⟩ := hv
  have HA := Lib.hid hA
  have HR := Lib.hid hr
  have HZ := Lib.hid hz
  clear hA hr hz
  go_enter Tryz.func86, Tryz.ntmps86
  go_wp2_with fail
  go_loopw [8] (fun i wr => ∃ k : Nat, k ≤ l.length ∧ i = .int .i64 k ∧ Hid (∀ (j : Nat) (x : ByteArray), j < k → l[j]? = some x → (!wordB x) = false) ∧ Below w.heap.size w wr) (fun i _ => l.length - (intOf i).toNat)
  case atStart => exact ⟨0, by omega, rfl, Lib.hid (by intro j x hj; omega), Below.refl _ _⟩
  case round =>
    obtain ⟨k, hk, rfl, HE, hbel⟩ := hrel
    by_cases hlt : k < l.length
    · obtain ⟨g, o, rfl, hg, hx⟩ := HA.out k l[k] (getT hlt)
      have hx2 := (hbel.cell (p := ⟨g, o + k, none⟩) hg).trans hx
      have i1 : (k : Int) < (l.length : Int) := by omega
      have HB := Lib.hid hbel
      have HS := Lib.hid (show (!wordB l[k]) = true → idxI (fun s => !wordB s) l = k from fun e => idxI_hit hlt HE.out e)
      have HN := Lib.hid (show (!wordB l[k]) = false → ∀ (j : Nat) (x : ByteArray), j < k + 1 → l[j]? = some x → (!wordB x) = false from fun e j x hj hxx => by
        by_cases hjk : j = k
        · subst hjk; rw [getT hlt] at hxx; cases hxx; exact e
        · exact HE.out j x (by omega) hxx)
      have HC := Lib.hid (fun (r : Bool) (hr : (!wordB l[k]) = r) (W : World) => noWord_is l[k] (HZ.out _ (List.getElem_mem hlt)) r hr W)
      clear hx hbel HE
      generalize l[k] = f at *
      cases hl : (!wordB f) with
      | true =>
        have HS2 := Lib.hid (HS.out hl)
        have HC2 := Lib.hid (HC.out true hl)
        clear hl HS HN HC
        go_wp2_with fail
        refine (HC2.out _).mono ?_
        rintro e w1 ⟨rfl, hb1⟩
        have HB1 := Lib.hid (bel2 HB.out hb1)
        clear hb1
        go_wp2
        go_ret
        exact ⟨ret_int (by rw [← HR.out, HS2.out]), HB1.out⟩
      | false =>
        have HS2 := Lib.hid (HN.out hl)
        have HC2 := Lib.hid (HC.out false hl)
        clear hl HS HN HC
        go_wp2_with fail
        refine (HC2.out _).mono ?_
        rintro e w1 ⟨rfl, hb1⟩
        have HB1 := Lib.hid (bel2 HB.out hb1)
        clear hb1
        go_wp2
        go_roundw
        case rel => exact ⟨k + 1, by omega, by go_num, HS2, HB1.out⟩
        case measure => simp [intOf]; omega
    · have HD := Lib.hid (show idxI (fun s => !wordB s) l = -1 from idxI_none fun x hx => by obtain ⟨j, hj, rfl⟩ := List.getElem_of_mem hx; exact HE.out j _ (by omega) (getT hj))
      go_wp2
      go_ret
      exact ⟨ret_int (by rw [← HR.out, HD.out]), hbel⟩
set_option maxHeartbeats 1000000 in
theorem containsNoWord (v : Value) (l : List ByteArray) (r : Bool) (hr : l.any (fun s => !wordB s) = r) (hm : l.length ≤ 140737488355328) (hz : ∀ x ∈ l, x.size < 4294967281) (w : World) (hv : Strs w v l) :
    Calls Tryz.prog 63 #[v, .func (.func 64) #[] #[]] w fun e w' => e = .returned (.bool r) ∧ Below w.heap.size w w' := by
  have HC := Lib.hid (indexNoWord v l _ rfl hm hz w hv)
  have HR := Lib.hid ((idxI_any (fun s => !wordB s) l).trans hr)
  obtain ⟨p, cap, rfl, _⟩ := hv
  clear hr hz
  generalize idxI (fun s => !wordB s) l = x at *
  go_enter Tryz.func63, Tryz.ntmps63
  go_wp2_with fail
  refine HC.out.mono ?_
  rintro e w1 ⟨rfl, hb1⟩
  have HB1 := Lib.hid hb1
  clear hb1
  go_wp2
  go_ret
  exact ⟨ret_bool HR.out, HB1.out⟩
abbrev OwnS (w : World) (B : Nat) (v : Value) (l : List ByteArray) : Prop := w.ownsRow B 9 1 v l.length (l.map Value.string)
theorem strs_own {w : World} {B : Nat} {v : Value} {l : List ByteArray} (h : OwnS w B v l) : Strs w v l := by
  rcases h.2 with ⟨rfl, h0⟩ | ⟨g, cap, cur, rfl, hb, hgb, _⟩
  · have : l = [] := List.eq_nil_of_length_eq_zero h0
    subst this
    exact ⟨none, 0, rfl, fun k x hk => by simp at hk⟩
  · refine ⟨_, cap, rfl, fun k x hk => ⟨g, 0, rfl, (Array.getElem?_eq_some_iff.1 hgb).1, ?_⟩⟩
    have hkl : k < l.length := (List.getElem?_eq_some_iff.1 hk).1
    rw [Nat.zero_add, h.cellAt k (by omega), List.getElem?_map, hk]; rfl
theorem own_any {w : World} {B e size n : Nat} {v : Value} {xs : List Value} (h : w.ownsRow B e size v n xs) : ∃ q c, v = .slice q n c := by
  rcases h.2 with ⟨rfl, rfl⟩ | ⟨g, cap, cur, rfl, _⟩
  · exact ⟨none, 0, rfl⟩
  · exact ⟨_, _, rfl⟩
theorem own_to {w w' : World} {B e size n : Nat} {v : Value} {xs : List Value} (h : w.ownsRow B e size v n xs) (hb : Below w.heap.size w w') : w'.ownsRow B e size v n xs :=
  h.kept (row := none) ⟨hb.os, hb.tape, hb.output, hb.size, fun k hk _ => hb.block k hk⟩ (Classical.em _)
theorem own_base {w : World} {B B' e size n : Nat} {v : Value} {xs : List Value} (h : w.ownsRow B e size v n xs) (hB : B' ≤ B) : w.ownsRow B' e size v n xs := ⟨h.1, h.2.imp id (fun ⟨g, cap, cur, h1, h2, h3⟩ => ⟨g, cap, cur, h1, Nat.le_trans hB h2, h3⟩)⟩
set_option maxHeartbeats 2000000 in
set_option maxRecDepth 100000 in
theorem texts_is (v : Value) (l : List ByteArray) (hm : l.length * 16 ≤ 140737488355328) (hz : ∀ x ∈ l, x.size ≤ 281474976710656) (w : World) (hv : Strs w v l) :
    Calls Tryz.prog 38 #[v] w fun e w' => (∃ q c, e = .returned (.slice q l.length c) ∧ OwnS w' w.heap.size (.slice q l.length c) l) ∧ Below w.heap.size w w' := by
  have key : Calls Tryz.prog 58 #[v, .func (.func 46) #[] #[]] w fun e w' => (∃ q c, e = .returned (.slice q l.length c) ∧ OwnS w' w.heap.size (.slice q l.length c) l) ∧ Below w.heap.size w w' := by
    obtain ⟨p, cap, rfl, hA⟩ := hv
    by_cases h0 : l = []
    · subst h0
      go_enter Tryz.func58, Tryz.ntmps58
      go_wp2
      go_ret
      exact ⟨⟨none, 0, rfl, World.ownsRow_nil _ _ _ _⟩, Below.refl _ _⟩
    · have hpos : 0 < l.length := List.length_pos_iff.2 h0
      obtain ⟨b, off, rfl, hbw, _⟩ := hA 0 l[0] (getT hpos)
      have hcl := Tryz.slices_Clone_string b off l.length cap l w (Nat.le_refl _) hm (fun j hj => by
        obtain ⟨g, o, hq, _, hx⟩ := hA j l[j] (getT hj)
        cases hq
        rw [List.getD_eq_getElem?_getD, getT hj]; exact hx)
      rw [List.take_length] at hcl
      have HCL := Lib.hid hcl
      have HZ := Lib.hid hz
      have hne : ((l.length : Int) == 0) = false := beq_eq_false_iff_ne.2 (by omega)
      clear hcl hA hz h0
      go_enter Tryz.func58, Tryz.ntmps58
      go_wp2_with fail
      refine HCL.out.mono ?_
      rintro e w1 ⟨v1, rfl, ho1, hn1, hb1⟩
      obtain ⟨g1, c1, rfl, hg1⟩ : ∃ g1 c1, v1 = .slice (some ⟨g1, 0, none⟩) l.length c1 ∧ w.heap.size ≤ g1 := by
        rcases ho1.2 with ⟨h1, _⟩ | ⟨g1, c1, cur, h1, h2, _⟩
        · exact absurd h1 hn1
        · exact ⟨g1, c1, h1, h2⟩
      have HO1 := Lib.hid ho1
      have HB1 := Lib.hid hb1
      clear ho1 hn1 hb1
      go_wp2_with fail
      go_loopw [15] (fun i wr => ∃ k : Nat, k ≤ l.length ∧ i = .int .i64 k ∧ Hid (OwnS wr w.heap.size (.slice (some ⟨g1, 0, none⟩) l.length c1) l) ∧ Hid (Below w.heap.size w wr)) (fun i _ => l.length - (intOf i).toNat)
      case atStart => exact ⟨0, by omega, rfl, HO1, HB1⟩
      case round =>
        obtain ⟨k, hk, rfl, HO, HB⟩ := hrel
        by_cases hlt : k < l.length
        · have i1 : (k : Int) < (l.length : Int) := by omega
          have hce : wr.cell? ⟨g1, k, none⟩ = some (.string l[k]) := by rw [HO.out.cellAt k (by omega), List.getElem?_map, getT hlt]; rfl
          have HCK := Lib.hid (fun W => clone_is l[k] W (HZ.out _ (List.getElem_mem hlt)))
          have HXK := Lib.hid (show (l.map Value.string).set k (.string l[k]) = l.map Value.string from by
            apply List.ext_getElem (by simp)
            intro n h1 h2
            simp only [List.getElem_set, List.getElem_map]
            split
            · subst_vars; rfl
            · rfl)
          have HLK := Lib.hid (show (l.map Value.string)[k]? = some (.string l[k]) by rw [List.getElem?_map, getT hlt]; rfl)
          generalize l[k] = x at *
          go_wp2_with fail
          refine (HCK.out _).mono ?_
          rintro e w2 ⟨rfl, hb2⟩
          have HO2 := Lib.hid (own_to HO.out hb2)
          have HB2 := Lib.hid (bel2 HB.out hb2)
          clear hb2
          have hce2 : w2.cell? ⟨g1, k, none⟩ = some (.string x) := by rw [HO2.out.cellAt k (by omega)]; exact HLK.out
          have hfz2 := HO2.out.frozenAt k
          have HO3 := Lib.hid (show OwnS (w2.setCell ⟨g1, k, none⟩ (.string x)) w.heap.size (.slice (some ⟨g1, 0, none⟩) l.length c1) l from by have := (HO2.out.stored k (.string x)).1; rw [HXK.out] at this; exact this)
          have HB3 := Lib.hid (show Below w.heap.size w (w2.setCell ⟨g1, k, none⟩ (.string x)) from HB2.out.setCell (p := ⟨g1, k, none⟩) hg1 _)
          go_wp2
          go_roundw
          case rel => exact ⟨k + 1, by omega, by go_num, HO3, HB3⟩
          case measure => simp [intOf]; omega
        · go_wp2
          go_ret
          exact ⟨⟨_, _, rfl, HO.out⟩, HB.out⟩
  have HK := Lib.hid key
  obtain ⟨p, cap, rfl, _⟩ := hv
  clear key hz
  go_enter Tryz.func38, Tryz.ntmps38
  go_wp2_with fail
  refine HK.out.mono ?_
  rintro e w1 ⟨⟨q, c, rfl, ho⟩, hb⟩
  have HO := Lib.hid ho
  have HB := Lib.hid hb
  clear ho hb
  go_wp2
  go_ret
  exact ⟨⟨_, _, rfl, HO.out⟩, HB.out⟩
end Go.Proofs.YtempmmkdppelaaaGreatDoor
/-
  A class of worlds behind one world: for regions that only read and call what makes memory.
-/
namespace Go.Proofs.YtempmmkdppelaaaGreatDoor
open Go.RowKit
/-- a world behind w: what lay in w lies there still -/
structure Later (w : World) where
  v : World
  h : Below w.heap.size w v
instance laterInh (w : World) : Inhabited (Later w) := ⟨⟨w, Below.refl _ w⟩⟩
theorem wp_region_quiet_later {P : Program} {id : Nat} {Q : Exit → Act → World → Prop} {a : Act} {w : World} {l : List Oper} (hm : P.follows .mixedOrders = true) (hB : Region.lexB .any l.toArray = true)
    (h : wpQuiet P l.toArray (fun w' => ∃ p : Later w, w' = p.v) (fun a' => ∀ w', (∃ p : Later w, w' = p.v) → Q .normal a' w') l a) : (Code.region id l.toArray true).wp P Q a w :=
  wp_region_quiet (C := fun w' => ∃ p : Later w, w' = p.v) hm hB ⟨⟨w.drew, (Below.refl _ w).drew⟩, rfl⟩ (by simpa using h)
theorem Calls.later_of {P : Program} {f : FuncId} {args : Array Value} {w : World} {p : Later w} {v : Value}
    (h : Calls P f args p.v fun e w' => e = .returned v ∧ Below p.v.heap.size p.v w') : Calls P f args p.v fun e w'' => e = .returned v ∧ ∃ q : Later w, w'' = q.v :=
  h.mono fun _ _ ⟨he, hb⟩ => ⟨he, ⟨_, p.h.trans (hb.mono p.h.size)⟩, rfl⟩
theorem Later.c {w : World} (p : Later w) {g i : Nat} {v : Value} (h : w.cell? ⟨g, i, none⟩ = some v) (hg : g < w.heap.size) : p.v.cell? ⟨g, i, none⟩ = some v := (p.h.cell (p := ⟨g, i, none⟩) hg).trans h
end Go.Proofs.YtempmmkdppelaaaGreatDoor
/-
  csp's right (of one directive) and its blanks.
-/
namespace Go.Proofs.YtempmmkdppelaaaGreatDoor
open Go.RowKit
def lowS (s : ByteArray) : ByteArray := ⟨(s.data.toList.map M.low).toArray⟩
/-- a directive, taken alone, is right -/
def rightD (x : Dir) : Bool := wordB x.1 && ((lowS x.1).toList == x.1.toList) && decide (x.2.length ≤ 64) && !(x.2.any (fun s => !wordB s))
set_option maxHeartbeats 4000000 in
set_option maxRecDepth 100000 in
theorem right_is (a : ByteArray) (vs : Value) (l : List ByteArray) (r : Bool) (hr : rightD (a, l) = r) (ha : a.size < 4294967281) (hm : l.length ≤ 140737488355328) (hz : ∀ x ∈ l, x.size < 4294967281) (w : World) (hv : Strs w vs l) :
    Calls Tryz.prog 47 #[.agg #[.string a, vs]] w fun e w' => e = .returned (.bool r) ∧ Below w.heap.size w w' := by
  have HR := Lib.hid hr
  have HV := Lib.hid hv
  have hv' := hv
  obtain ⟨q, c, rfl, _⟩ := hv
  clear hr
  have hB0 := bnew w (.cells #[.string a, .slice q l.length c] 35)
  have HB0 := Lib.hid hB0
  have h0 : (w.alloc (.cells #[.string a, .slice q l.length c] 35)).cell? ⟨w.heap.size, 0, none⟩ = some (.string a) := cell_of_row _ _ 0 _ _ _ (heap_alloc_new _ _)
  have h1 : (w.alloc (.cells #[.string a, .slice q l.length c] 35)).cell? ⟨w.heap.size, 1, none⟩ = some (.slice q l.length c) := cell_of_row _ _ 1 _ _ _ (heap_alloc_new _ _)
  have hlt : w.heap.size < (w.alloc (.cells #[.string a, .slice q l.length c] 35)).heap.size := by simp
  obtain ⟨W, hW⟩ : ∃ W, w.alloc (.cells #[.string a, .slice q l.length c] 35) = W := ⟨_, rfl⟩
  have HVW := Lib.hid (hW ▸ hv'.to hB0)
  have k0 : ∀ p : Later W, p.v.cell? ⟨w.heap.size, 0, none⟩ = some (.string a) := fun p => p.c (hW ▸ h0) (hW ▸ hlt)
  have k1 : ∀ p : Later W, p.v.cell? ⟨w.heap.size, 1, none⟩ = some (.slice q l.length c) := fun p => p.c (hW ▸ h1) (hW ▸ hlt)
  have HBW := Lib.hid (show Below w.heap.size w W from hW ▸ hB0)
  have hm0 : Tryz.prog.follows .mixedOrders = true := by kernel_rfl
  have HW1 := Lib.hid (fun r h W => word_is a ha r h W)
  have HL1 := Lib.hid (fun W => lower_any a (by unfold maxLen; omega) W)
  rw [show (⟨(a.data.toList.map M.low).toArray⟩ : ByteArray) = lowS a from rfl] at HL1
  have HC1 := Lib.hid (fun r (h : l.any (fun s => !wordB s) = r) (W' : World) hb => containsNoWord (.slice q l.length c) l r h hm hz W' (Strs.to HVW.out hb))
  clear hz hv' hlt h0 h1 hB0
  have HWW := Lib.hid hW
  obtain ⟨L, hL⟩ : ∃ L, lowS a = L := ⟨_, rfl⟩
  have HR2 := Lib.hid (show (wordB a && (L.toList == a.toList) && decide (l.length ≤ 64) && !(l.any (fun s => !wordB s))) = r from by rw [← hL]; exact HR.out)
  rw [hL] at HL1
  clear hL HR
  have fin : ∀ w2, Below W.heap.size W w2 → Below w.heap.size w w2 := fun w2 h => HBW.out.trans (h.mono HBW.out.size)
  have FIN := Lib.hid fin
  clear fin
  cases hw : wordB a with
  | false =>
    have HW2 := Lib.hid (HW1.out false hw)
    have HR3 := Lib.hid (show false = r by rw [← HR2.out, hw]; rfl)
    clear hw HW1
    go_enter Tryz.func47, Tryz.ntmps47
    go_wp2_with fail
    (try rw [HWW.out])
    refine wp_region_quiet_later (by assumption) (by kernel_rfl) ?_
    repeat (go_big_quiet_step ((go_at_call 62; exact Calls.later_of (HW2.out _))))
    refine wpQuiet_nil ?_
    rintro w2 ⟨⟨_, h2⟩, rfl⟩
    go_wp2
    go_ret
    exact ⟨ret_bool HR3.out, FIN.out _ h2⟩
  | true =>
    have HW2 := Lib.hid (HW1.out true hw)
    cases hl : (L.toList == a.toList) with
    | false =>
      have HR3 := Lib.hid (show false = r by rw [← HR2.out, hw, hl]; rfl)
      clear hw HW1
      go_enter Tryz.func47, Tryz.ntmps47
      go_wp2_with fail
      (try rw [HWW.out])
      refine wp_region_quiet_later (by assumption) (by kernel_rfl) ?_
      repeat (go_big_quiet_step ((first | (go_at_call 62; exact Calls.later_of (HW2.out _)) | (go_at_call 35; exact Calls.later_of (HL1.out _)))))
      refine wpQuiet_nil ?_
      rintro w2 ⟨⟨_, h2⟩, rfl⟩
      go_wp2
      go_ret
      exact ⟨ret_bool HR3.out, FIN.out _ h2⟩
    | true =>
      by_cases h64 : l.length ≤ 64
      · have j1 : (l.length : Int) ≤ 64 := by omega
        obtain ⟨b, hb⟩ : ∃ b, l.any (fun s => !wordB s) = b := ⟨_, rfl⟩
        have HR3 := Lib.hid (show (!b) = r by rw [← HR2.out, hw, hl, hb]; simp [h64])
        have HC2 := Lib.hid (fun W' h => HC1.out b hb W' h)
        clear hw HW1 hb HC1
        go_enter Tryz.func47, Tryz.ntmps47
        go_wp2_with fail
        (try rw [HWW.out])
        refine wp_region_quiet_later (by assumption) (by kernel_rfl) ?_
        repeat (go_big_quiet_step ((first | (go_at_call 62; exact Calls.later_of (HW2.out _)) | (go_at_call 35; exact Calls.later_of (HL1.out _)) | (go_at_call 63; exact Calls.later_of (HC2.out _ (Later.h _))))))
        refine wpQuiet_nil ?_
        rintro w2 ⟨⟨_, h2⟩, rfl⟩
        go_wp2
        go_ret
        exact ⟨ret_bool HR3.out, FIN.out _ h2⟩
      · have j1 : ¬ (l.length : Int) ≤ 64 := by omega
        have j2 : decide ((l.length : Int) ≤ 64) = false := decide_eq_false j1
        have j3 : decide (l.length ≤ 64) = false := decide_eq_false h64
        have HR3 := Lib.hid (show false = r by rw [← HR2.out, hw, hl, j3]; rfl)
        clear hw HW1
        go_enter Tryz.func47, Tryz.ntmps47
        go_wp2_with fail
        (try rw [HWW.out])
        refine wp_region_quiet_later (by assumption) (by kernel_rfl) ?_
        repeat (go_big_quiet_step ((first | (go_at_call 62; exact Calls.later_of (HW2.out _)) | (go_at_call 35; exact Calls.later_of (HL1.out _)))))
        refine wpQuiet_nil ?_
        rintro w2 ⟨⟨_, h2⟩, rfl⟩
        go_wp2
        go_ret
        exact ⟨ret_bool HR3.out, FIN.out _ h2⟩
/-- the blanks between words -/
def blanksL : List UInt8 := [9, 10, 12, 13, 32]
def blankR (r : Nat) : Bool := inR blanksL r
set_option maxHeartbeats 1000000 in
theorem blank_is (r : Nat) (h : r ≤ 1114111) (w : World) : Calls Tryz.prog 33 #[.int .i32 r] w fun e w' => e = .returned (.bool (blankR r)) ∧ Below w.heap.size w w' := by
  have HC := Lib.hid (containsRune_any ⟨#[9, 10, 12, 13, 32]⟩ (by
    intro b hb
    simp only [List.mem_cons, List.mem_nil_iff, or_false] at hb
    rcases hb with rfl | rfl | rfl | rfl | rfl <;> decide) (by decide) r h w)
  rw [show inR (⟨#[9, 10, 12, 13, 32]⟩ : ByteArray).data.toList r = blankR r from rfl] at HC
  generalize blankR r = x at *
  go_enter Tryz.func33, Tryz.ntmps33
  go_wp2_with fail
  refine HC.out.mono ?_
  rintro e w1 ⟨rfl, hb1⟩
  have HB1 := Lib.hid hb1
  clear hb1
  go_wp2
  go_ret
  exact ⟨rfl, HB1.out⟩
end Go.Proofs.YtempmmkdppelaaaGreatDoor
