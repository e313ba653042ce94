import Derived.Test.YtflddokngplgiaaDoorXIM
import Derived.Test.YtflddokngplgiaaDoorA24M
import Derived.Test.YtflddokngplgiaaDoorTie
import Derived.Test.YtflddokngplgiaaDoorCards
import Derived.Test.YtflddokngplgiaaDoorA13M
import Derived.Test.YtflddokngplgiaaDoorShelfM
import Derived.ProofKit
import Derived.OpenShut
import Derived.LaidMore
import Derived.Lay
import Derived.SevenTiedAt
import Derived.Stop.Joined
import Derived.HandedShaped
import Derived.Lib.LaidU8
import Derived.Lib.LaidTab
import Derived.ShutString
import Derived.SizedLaws
import Derived.ChangeOld
import Derived.Below
/-
  The walk of AddrReads.
-/
namespace Go.Proofs.YtflddokngplgiaaDoor
open Go.RowKit
theorem ans_yn (o : Option Nat) : ∃ yn yc : Int, ansE o = .returned (.tuple #[.int .u32 yn, .int .i64 yc]) := by
  cases o with
  | none => exact ⟨0, 17, rfl⟩
  | some n => exact ⟨n, 0, rfl⟩
theorem v6_yn (l : List UInt8) : ∃ (x : List Nat) (yc : Int), x.length = 8 ∧ (∀ n ∈ x, n < 65536) ∧ v6E (v6P l) = .returned (.tuple #[.agg (A8 x), .int .i64 yc]) := by
  cases h : v6P l with
  | none => exact ⟨zer8, 17, rfl, by decide, rfl⟩
  | some x => exact ⟨x, 0, (v6P_len h).1, (v6P_len h).2, rfl⟩
set_option maxHeartbeats 8000000 in
set_option maxRecDepth 100000 in
theorem AddrReads_std (s : ByteArray) (hs : s.size ≤ 1048576) (w : World) (hG : Glob w) : Calls Tryd.prog 3 #[.string s] w fun e w' => e = .returned (.bool true) ∧ Below w.heap.size w w' := by
  obtain ⟨yn, yc, h4⟩ := ans_yn (v4O s.data.toList)
  obtain ⟨x, zc, hx8, hxb, h6⟩ := v6_yn s.data.toList
  obtain ⟨a0, a1, a2, a3, a4, a5, a6, a7, rfl⟩ := len8 hx8
  have keq : ∀ W, (binOp .eql 27 (.agg #[.int .u16 (a0 : Nat), .int .u16 (a1 : Nat), .int .u16 (a2 : Nat), .int .u16 (a3 : Nat), .int .u16 (a4 : Nat), .int .u16 (a5 : Nat), .int .u16 (a6 : Nat), .int .u16 (a7 : Nat)]) (.agg #[.int .u16 (a0 : Nat), .int .u16 (a1 : Nat), .int .u16 (a2 : Nat), .int .u16 (a3 : Nat), .int .u16 (a4 : Nat), .int .u16 (a5 : Nat), .int .u16 (a6 : Nat), .int .u16 (a7 : Nat)])).run Tryd.prog W = .ok (.bool true) W := fun W => by
    have := (show (binOp .eql 27 (.agg (A8 [a0, a1, a2, a3, a4, a5, a6, a7])) (.agg (A8 [a0, a1, a2, a3, a4, a5, a6, a7]))).run Tryd.prog W = .ok (.bool true) W from by rw [eq8 _ _ hx8 hx8 hxb hxb]; simp)
    exact this
  have H10 := Lib.hid (show ∀ W : World, Glob W → Calls Tryd.prog 10 #[.string s] W fun e w' => e = .returned (.tuple #[.int .u32 yn, .int .i64 yc]) ∧ Below W.heap.size W w' from fun W h => (v4_is s (by omega) W h).mono fun e w' h => ⟨h.1.trans h4, h.2⟩)
  have H11 := Lib.hid (show ∀ W : World, Calls Tryd.prog 11 #[.string s] W fun e w' => e = .returned (.tuple #[.int .u32 yn, .int .i64 yc]) ∧ Below W.heap.size W w' from fun W => (rv4_is s (by omega) W).mono fun e w' h => ⟨h.1.trans h4, h.2⟩)
  have H12 := Lib.hid (show ∀ W : World, Glob W → Calls Tryd.prog 12 #[.string s] W fun e w' => e = .returned (.tuple #[.agg #[.int .u16 (a0 : Nat), .int .u16 (a1 : Nat), .int .u16 (a2 : Nat), .int .u16 (a3 : Nat), .int .u16 (a4 : Nat), .int .u16 (a5 : Nat), .int .u16 (a6 : Nat), .int .u16 (a7 : Nat)], .int .i64 zc]) ∧ Below W.heap.size W w' from fun W h => (v6_is s (by omega) W h).mono fun e w' h => ⟨h.1.trans h6, h.2⟩)
  have H13 := Lib.hid (show ∀ W : World, Calls Tryd.prog 13 #[.string s] W fun e w' => e = .returned (.tuple #[.agg #[.int .u16 (a0 : Nat), .int .u16 (a1 : Nat), .int .u16 (a2 : Nat), .int .u16 (a3 : Nat), .int .u16 (a4 : Nat), .int .u16 (a5 : Nat), .int .u16 (a6 : Nat), .int .u16 (a7 : Nat)], .int .i64 zc]) ∧ Below W.heap.size W w' from fun W => (rv6_is s (by omega) W).mono fun e w' h => ⟨h.1.trans (by rw [refV6_eq]; exact h6), h.2⟩)
  obtain ⟨r, hr⟩ : ∃ r, endsB s.data.toList = r := ⟨_, rfl⟩
  have H15 := Lib.hid (show ∀ W : World, Glob W → Calls Tryd.prog 15 #[.string s] W fun e w' => e = .returned (.bool r) ∧ Below W.heap.size W w' from fun W h => hr ▸ ends_is s (by omega) W h)
  have H16 := Lib.hid (show ∀ W : World, Calls Tryd.prog 16 #[.string s] W fun e w' => e = .returned (.bool r) ∧ Below W.heap.size W w' from fun W => hr ▸ rends_is s (by omega) W)
  have HG := Lib.hid hG
  clear hG h4 h6 hx8 hxb hr
  go_enter Tryd.func3, Tryd.ntmps3
  go_wp2_with fail
  refine (H10.out _ HG.out).mono ?_
  rintro e w1 ⟨rfl, hb1⟩
  have HB1 := Lib.hid hb1
  have HG1 := Lib.hid (HG.out.to hb1)
  clear hb1
  go_wp2_with fail
  refine (H11.out _).mono ?_
  rintro e w2 ⟨rfl, hb2⟩
  have HB2 := Lib.hid (bel2 HB1.out hb2)
  have HG2 := Lib.hid (HG1.out.to hb2)
  clear hb2
  go_wp2_with fail
  refine (H12.out _ HG2.out).mono ?_
  rintro e w3 ⟨rfl, hb3⟩
  obtain ⟨X, hX⟩ : ∃ X, w3.alloc (.cells #[.int .u16 (a0 : Nat), .int .u16 (a1 : Nat), .int .u16 (a2 : Nat), .int .u16 (a3 : Nat), .int .u16 (a4 : Nat), .int .u16 (a5 : Nat), .int .u16 (a6 : Nat), .int .u16 (a7 : Nat)] 27) = X := ⟨_, rfl⟩
  have hbX : Below w3.heap.size w3 X := hX ▸ bnew w3 _
  have HA := Lib.hid (show Has X w3.heap.size (.cells #[.int .u16 (a0 : Nat), .int .u16 (a1 : Nat), .int .u16 (a2 : Nat), .int .u16 (a3 : Nat), .int .u16 (a4 : Nat), .int .u16 (a5 : Nat), .int .u16 (a6 : Nat), .int .u16 (a7 : Nat)] 27) from hX ▸ Has.new w3 _)
  have HB3 := Lib.hid (bel2 (bel2 HB2.out hb3) hbX)
  have HG3 := Lib.hid ((HG2.out.to hb3).to hbX)
  clear hb3 hbX
  go_wp2_with fail
  refine (H13.out _).mono ?_
  rintro e w4 ⟨rfl, hb4⟩
  obtain ⟨Y, hY⟩ : ∃ Y, w4.alloc (.cells #[.int .u16 (a0 : Nat), .int .u16 (a1 : Nat), .int .u16 (a2 : Nat), .int .u16 (a3 : Nat), .int .u16 (a4 : Nat), .int .u16 (a5 : Nat), .int .u16 (a6 : Nat), .int .u16 (a7 : Nat)] 27) = Y := ⟨_, rfl⟩
  have hbY : Below w4.heap.size w4 Y := hY ▸ bnew w4 _
  have HA4 := Lib.hid ((HA.out.to hb4).to hbY)
  have HC4 := Lib.hid (show Has Y w4.heap.size (.cells #[.int .u16 (a0 : Nat), .int .u16 (a1 : Nat), .int .u16 (a2 : Nat), .int .u16 (a3 : Nat), .int .u16 (a4 : Nat), .int .u16 (a5 : Nat), .int .u16 (a6 : Nat), .int .u16 (a7 : Nat)] 27) from hY ▸ Has.new w4 _)
  have HB4 := Lib.hid (bel2 (bel2 HB3.out hb4) hbY)
  have HG4 := Lib.hid ((HG3.out.to hb4).to hbY)
  clear hb4 hbY HA hX
  go_wp2_with fail
  refine (lives_is _ HG4.out).mono ?_
  rintro e w5 ⟨rfl, hb5⟩
  have HA5 := Lib.hid (HA4.out.to hb5)
  have HC5 := Lib.hid (HC4.out.to hb5)
  have HB5 := Lib.hid (bel2 HB4.out hb5)
  have HG5 := Lib.hid (HG4.out.to hb5)
  clear hb5 HA4 HC4
  go_wp2_with fail
  refine (H15.out _ HG5.out).mono ?_
  rintro e w6 ⟨rfl, hb6⟩
  have HA6 := Lib.hid (HA5.out.to hb6)
  have HC6 := Lib.hid (HC5.out.to hb6)
  have HB6 := Lib.hid (bel2 HB5.out hb6)
  clear hb6 HA5 HC5
  go_wp2_with fail
  refine (H16.out _).mono ?_
  rintro e w7 ⟨rfl, hb7⟩
  have HA7 := Lib.hid (HA6.out.to hb7)
  have HC7 := Lib.hid (HC6.out.to hb7)
  have HB7 := Lib.hid (bel2 HB6.out hb7)
  clear hb7 HA6 HC6
  have z0 : w7.cell? ⟨w3.heap.size, 0, none⟩ = some (.int .u16 (a0 : Nat)) := HA7.out.cell 0 rfl
  have m0 : w7.cell? ⟨w4.heap.size, 0, none⟩ = some (.int .u16 (a0 : Nat)) := HC7.out.cell 0 rfl
  have z1 : w7.cell? ⟨w3.heap.size, 1, none⟩ = some (.int .u16 (a1 : Nat)) := HA7.out.cell 1 rfl
  have m1 : w7.cell? ⟨w4.heap.size, 1, none⟩ = some (.int .u16 (a1 : Nat)) := HC7.out.cell 1 rfl
  have z2 : w7.cell? ⟨w3.heap.size, 2, none⟩ = some (.int .u16 (a2 : Nat)) := HA7.out.cell 2 rfl
  have m2 : w7.cell? ⟨w4.heap.size, 2, none⟩ = some (.int .u16 (a2 : Nat)) := HC7.out.cell 2 rfl
  have z3 : w7.cell? ⟨w3.heap.size, 3, none⟩ = some (.int .u16 (a3 : Nat)) := HA7.out.cell 3 rfl
  have m3 : w7.cell? ⟨w4.heap.size, 3, none⟩ = some (.int .u16 (a3 : Nat)) := HC7.out.cell 3 rfl
  have z4 : w7.cell? ⟨w3.heap.size, 4, none⟩ = some (.int .u16 (a4 : Nat)) := HA7.out.cell 4 rfl
  have m4 : w7.cell? ⟨w4.heap.size, 4, none⟩ = some (.int .u16 (a4 : Nat)) := HC7.out.cell 4 rfl
  have z5 : w7.cell? ⟨w3.heap.size, 5, none⟩ = some (.int .u16 (a5 : Nat)) := HA7.out.cell 5 rfl
  have m5 : w7.cell? ⟨w4.heap.size, 5, none⟩ = some (.int .u16 (a5 : Nat)) := HC7.out.cell 5 rfl
  have z6 : w7.cell? ⟨w3.heap.size, 6, none⟩ = some (.int .u16 (a6 : Nat)) := HA7.out.cell 6 rfl
  have m6 : w7.cell? ⟨w4.heap.size, 6, none⟩ = some (.int .u16 (a6 : Nat)) := HC7.out.cell 6 rfl
  have z7 : w7.cell? ⟨w3.heap.size, 7, none⟩ = some (.int .u16 (a7 : Nat)) := HA7.out.cell 7 rfl
  have m7 : w7.cell? ⟨w4.heap.size, 7, none⟩ = some (.int .u16 (a7 : Nat)) := HC7.out.cell 7 rfl
  have gr : (r == r) = true := by simp
  go_wp2_with fail
  go_ret
  exact ⟨rfl, HB7.out⟩
end Go.Proofs.YtflddokngplgiaaDoor
namespace Go.Proofs.YtflddokngplgiaaDoor
open Go.ChangeShapes Go.WideShapes Go.ChangeAt Go.RowKit
theorem own : ownKnob Tryd.prog.godebug = none := by kernel_rfl
theorem laidOut : laidOutB Tryd.prog = true := by kernel_rfl
abbrev theLaid : List (String × DataW Unit) := Rows.addrReadsRow.laid
/-- an integer variable that is listed: its cells -/
theorem tab_reads {W : World} {n : String} {k : IntKind} {zs : List Int} (h : Lib.VarReads Tryd.prog W n (Lib.tabData k zs)) {g : Nat} {t e : TypeId} {len : Nat} (hg : Tryd.prog.globalNamed n = some g) (ht : (Tryd.prog.globals[g]?).map (·.type) = some t)
    (hu : Tryd.prog.underlying t = some (.array len e)) (he : Tryd.prog.underlying e = some (.int k)) (hce : Tryd.prog.cellsOf e = 1) (hct : Tryd.prog.cellsOf t = len) :
    Lib.TabIs Tryd.prog W n k zs ∧ ∀ (i : Nat) (z : Int), zs[i]? = some z → W.cell? ⟨g, i, none⟩ = some (.int k z) := by
  obtain ⟨g', t', cs, fuel, p, h1, h2, h3, h4⟩ := h
  obtain rfl := Option.some.inj (hg.symm.trans h1)
  obtain rfl := Option.some.inj (ht.symm.trans h2)
  have hc := Lib.cells_of_tab hu he hce hct h4
  have hcs : cs = (zs.map fun z => Value.int k z).toArray := by rw [← hc]
  refine ⟨by unfold Lib.TabIs; rw [h3]; exact congrArg some hcs, fun i z hi => ?_⟩
  rw [World.var?_cell hg h3 i, hcs]
  simp [hi]
theorem var_below {W W' : World} {n : String} {g : Nat} (hg : Tryd.prog.globalNamed n = some g) (hlt : g < W.heap.size) (hb : Below W.heap.size W W') : W'.var? Tryd.prog n = W.var? Tryd.prog n := by
  unfold World.var?
  rw [hg]
  simp only [Option.bind_some]
  rw [hb.block g hlt]
theorem lt_of_cell {W : World} {g i : Nat} {v : Value} (h : W.cell? ⟨g, i, none⟩ = some v) : g < W.heap.size := by
  rcases Nat.lt_or_ge g W.heap.size with h' | h'
  · exact h'
  · simp [World.cell?, Array.getElem?_eq_none h'] at h
theorem glob_of {W : World} (h0 : laidMetH Tryd.prog theLaid W) (hsh : W.ShapedOpen Tryd.prog) : Glob W := by
  rw [MakeChecks.laidMetH_plain _ _ _ (by kernel_rfl)] at h0
  have r : ∀ {n : String} {d : DataW Unit}, (n, d) ∈ theLaid → Lib.VarReads Tryd.prog W n d := fun hm => Lib.laidMet.reads h0 hm
  have tO := tab_reads (n := "bastion/addr.octal") (k := .u8) (zs := [48, 55]) (r (by simp [theLaid, Rows.addrReadsRow, Rows.laid_bastion_addr_octal, Lib.tabData])) (g := 1) (t := 55) (e := 5) (len := 2) (by kernel_rfl) (by kernel_rfl) (by kernel_rfl) (by kernel_rfl) (by kernel_rfl) (by kernel_rfl)
  have tD := tab_reads (n := "bastion/addr.decimal") (k := .u8) (zs := [48, 57]) (r (by simp [theLaid, Rows.addrReadsRow, Rows.laid_bastion_addr_decimal, Lib.tabData])) (g := 0) (t := 55) (e := 5) (len := 2) (by kernel_rfl) (by kernel_rfl) (by kernel_rfl) (by kernel_rfl) (by kernel_rfl) (by kernel_rfl)
  have tS := tab_reads (n := "bastion/addr.small") (k := .u8) (zs := [97, 102]) (r (by simp [theLaid, Rows.addrReadsRow, Rows.laid_bastion_addr_small, Lib.tabData])) (g := 2) (t := 55) (e := 5) (len := 2) (by kernel_rfl) (by kernel_rfl) (by kernel_rfl) (by kernel_rfl) (by kernel_rfl) (by kernel_rfl)
  have tG := tab_reads (n := "bastion/addr.great") (k := .u8) (zs := [65, 70]) (r (by simp [theLaid, Rows.addrReadsRow, Rows.laid_bastion_addr_great, Lib.tabData])) (g := 3) (t := 55) (e := 5) (len := 2) (by kernel_rfl) (by kernel_rfl) (by kernel_rfl) (by kernel_rfl) (by kernel_rfl) (by kernel_rfl)
  have hpow : (Rows.laid_internal_strconv_uint64pow10 : DataW Unit) = Lib.tabData .u64 Lib.pow10Tab := by kernel_rfl
  have tP := tab_reads (n := "internal/strconv.uint64pow10") (k := .u64) (zs := Lib.pow10Tab) (by rw [← hpow]; exact r (by simp [theLaid, Rows.addrReadsRow])) (g := 5) (t := 98) (e := 43) (len := 20) (by kernel_rfl) (by kernel_rfl) (by kernel_rfl) (by kernel_rfl) (by kernel_rfl) (by kernel_rfl)
  obtain ⟨zs, hzs, hz15⟩ : ∃ zs : List Int, (Rows.laid_math_bits_deBruijn64tab : DataW Unit) = Lib.tabData .u8 zs ∧ zs[15]? = some 4 :=
    ⟨[0, 1, 56, 2, 57, 49, 28, 3, 61, 58, 42, 50, 38, 29, 17, 4, 62, 47, 59, 36, 45, 43, 51, 22, 53, 39, 33, 30, 24, 18, 12, 5, 63, 55, 48, 27, 60, 41, 37, 16, 46, 35, 44, 21, 52, 32, 23, 11, 54, 26, 40, 15, 34, 20, 31, 10, 25, 14, 19, 9, 13, 8, 7, 6], by kernel_rfl, rfl⟩
  have tB := tab_reads (n := "math/bits.deBruijn64tab") (k := .u8) (zs := zs) (by rw [← hzs]; exact r (by simp [theLaid, Rows.addrReadsRow])) (g := 11) (t := 118) (e := 5) (len := 64) (by kernel_rfl) (by kernel_rfl) (by kernel_rfl) (by kernel_rfl) (by kernel_rfl) (by kernel_rfl)
  have hB := tB.2 15 4 hz15
  have hlt := lt_of_cell hB
  refine ⟨tD.2 0 48 rfl, tD.2 1 57 rfl, tO.2 0 48 rfl, tO.2 1 55 rfl, tS.2 0 97 rfl, tS.2 1 102 rfl, tG.2 0 65 rfl, tG.2 1 70 rfl, Tryd.laysM143.s1_3 W hsh, ?_, fun W' hb => ?_, hB, hlt⟩
  · have hE := r (n := "strconv.ErrRange") (d := Rows.laid_strconv_ErrRange) (by simp [theLaid, Rows.addrReadsRow])
    obtain ⟨g, t, cs, fuel, p, e1, e2, e3, e4⟩ := hE
    obtain rfl := Option.some.inj ((show Tryd.prog.globalNamed "strconv.ErrRange" = some 9 by kernel_rfl).symm.trans e1)
    obtain rfl := Option.some.inj ((show (Tryd.prog.globals[9]?).map (·.type) = some 78 by kernel_rfl).symm.trans e2)
    obtain ⟨_, u, v, hc, _⟩ := iface_of_trod Tryd.underlying78 e4
    refine ⟨.iface u v, ?_, .inr ⟨u, v, rfl⟩⟩
    rw [World.var?_cell e1 e3 0]
    have := congrArg (·[0]?) hc
    simpa using this
  · unfold Lib.TabIs
    rw [var_below (g := 5) (by kernel_rfl) (by omega) hb]
    exact tP.1
/-- the wrap that keeps both the world's shape and what is listed -/
theorem wrapBoth {H : Type} {enc : TypeId × Value → H} {a : Assume} {C : Checked} {os : Os} {f : FuncId} {fn : Func} {s : ChangeSpec} {conds : List PathCond} {apart fresh handsOn again : Bool} {X : World → Array Value → Prop}
    (hX : ∀ (w w' : World) (args : Array Value), w.heap = w'.heap → X w args → X w' args)
    (own : ownKnob C.prog.godebug = none) (started : os.Started) (noInit : C.prog.inits.idxOf? f = none) (hfn : C.prog.funcs[f]? = some fn)
    (witness : ∃ (w : World) (tape : Tape) (i : Input), w.os = os ∧ (w.forCall tape i).Shaped C.prog ∧ i.vars = [] ∧ Input.okWide C.prog (w.forCall tape i) .any w.heap.size f i ∧
      ((s.pre enc C.prog fn conds apart (w.forCall tape i).memory i.args ∧ X (w.forCall tape i).memory i.args) ∧ sizedMet enc C.prog fn (OpenSpec.ofChange s) apart (w.forCall tape i).memory i.args) ∧ a.holds C.prog (lone (Frame.enter C.prog f i.args .normal) [] (w.forCall tape i)))
    (contract : ∀ (W : World) (base : Nat) (args : Array Value) (ds gs : List (DataW H)) (before : List MemPlace),
      (∀ (j : Nat) t v, fn.params[j]? = some t → args[j]? = some v → Value.okWide C.prog W .any base t v) →
      DataW.Whole enc C.prog fn.params.toList s.vars apart W args.toList ds gs before →
      (DataW.weightsEach C.prog (fn.params.toList ++ s.plain.varTypes C.prog) (ds ++ gs)).all (· ≤ reachBytes) = true → W.ShapedOpen C.prog → X W args →
      Calls C.prog f args W fun e W' => ∃ v, e = .returned v ∧ s.post enc C.prog fn apart fresh handsOn again W args v W') :
    ReturnsInHanded a C os f .any (fun w args => (s.pre enc C.prog fn conds apart w args ∧ X w args) ∧ sizedMet enc C.prog fn (OpenSpec.ofChange s) apart w args) (s.post enc C.prog fn apart fresh handsOn again) := by
  refine returnsInHanded_of_calls own started noInit witness ?_
  intro w tape i _ hsh _ hok hpre _
  obtain ⟨_, _, _, fn', hfn', _, _, _, _, hval⟩ := hok
  have e : fn' = fn := Option.some.inj (hfn'.symm.trans hfn)
  subst e
  obtain ⟨⟨⟨ds, gs, before, hw, _⟩, hx⟩, hz⟩ := hpre
  have hw' := DataW.Whole.of_heap (w' := w.forCall tape i) (by rfl) hw
  refine (contract (w.forCall tape i) w.heap.size i.args ds gs before hval hw' (hz.weights hw) hsh (hX _ _ _ (by rfl) hx)).mono fun e W' ⟨v, he, hp⟩ => ?_
  subst he
  exact ChangeSpec.post_blind hp
theorem met_laid (os : Os) (args : Array Value) : laidMetH Tryd.prog theLaid ((World.laidAll Tryd.prog os theLaid).forCall (fun _ _ => 0) ⟨#[], args, []⟩).memory := by
  rw [MakeChecks.laidMetH_plain _ _ _ (by kernel_rfl)]
  exact laidMet_laidAll _ (by kernel_rfl) (by kernel_rfl)
set_option maxRecDepth 100000 in
/-- an array of eight pieces that came in -/
theorem open_arr8 {H : Type} {enc : TypeId × Value → H} {W : World} {base b0 : Nat} {r : Reach} {sp : Nat → Bool} {held : Bool} {v : Value} {d : DataW H} {p : List MemPlace} (hv : Value.okWide Tryd.prog W r b0 27 v) (h : DataW.Trod enc Tryd.prog W base sp held 27 v d p) :
    ∃ l : List Nat, v = .agg (A8 l) ∧ l.length = 8 ∧ ∀ x ∈ l, x < 65536 := by
  simp only [Value.okWide, Tryd.underlying27] at hv
  obtain ⟨cs, rfl, hsz, _⟩ := hv
  obtain ⟨fuel, hf⟩ := h
  have hc26 : Tryd.prog.cellsOf 26 = 1 := by kernel_rfl
  have hc27 : Tryd.prog.cellsOf 27 = 8 := by kernel_rfl
  have hs8 : cs.size = 8 := hsz.trans hc27
  obtain ⟨xs, m, _, _, _, hl, hel⟩ := DataW.trod_array Tryd.underlying27 hf
  have each : ∀ i, i < 8 → ∃ n : Nat, cs[i]? = some (.int .u16 n) ∧ n < 65536 := by
    intro i hi
    have hE := hel i hi
    rw [hc26, Nat.mul_one, List.getElem?_eq_getElem (by omega)] at hE
    obtain ⟨z, e1, _, hw⟩ := DataW.trod_int Tryd.underlying26 hE
    have hz : 0 ≤ z ∧ z ≤ 65535 := by
      have q1 : IntKind.u16.min = 0 := by decide
      have q2 : IntKind.u16.max = 65535 := by decide
      simp [Lit.wf, q1, q2] at hw
      omega
    refine ⟨z.toNat, ?_, by omega⟩
    have h0 : ((Value.cells (.agg cs)).toList.drop i)[0]? = some (.int .u16 z) := by
      have := congrArg (·[0]?) e1
      simpa [List.getElem?_take] using this
    have hz2 : ((z.toNat : Nat) : Int) = z := by omega
    rw [hz2]
    simpa [Value.cells] using h0
  have hf : ∀ i : Nat, ∃ n : Nat, i < 8 → cs[i]? = some (.int .u16 n) ∧ n < 65536 := fun i => by
    by_cases hi : i < 8
    · obtain ⟨n, h⟩ := each i hi; exact ⟨n, fun _ => h⟩
    · exact ⟨0, fun h => absurd h hi⟩
  obtain ⟨f, hF⟩ : ∃ f : Nat → Nat, ∀ i, i < 8 → cs[i]? = some (.int .u16 (f i : Nat)) ∧ f i < 65536 := ⟨fun i => Classical.choose (hf i), fun i => Classical.choose_spec (hf i)⟩
  clear each hf hel
  have e : cs = A8 ((List.range 8).map f) := by
    apply Array.ext_getElem?
    intro i
    by_cases hi : i < 8
    · rw [(hF i hi).1]
      simp [A8, hi]
    · rw [Array.getElem?_eq_none (by omega), Array.getElem?_eq_none (by rw [A8_size, List.length_map, List.length_range]; omega)]
  refine ⟨(List.range 8).map f, by rw [← e], by simp, ?_⟩
  intro x hx
  obtain ⟨i, hi, rfl⟩ := List.mem_map.1 hx
  exact (hF i (by simpa using hi)).2
theorem u_bd {k : IntKind} {hi : Int} (h0 : k.min = 0) (h1 : k.max = hi) {n : Int} (h : (Lit.int k n).wf = true) : ∃ m : Nat, n = (m : Int) ∧ (m : Int) ≤ hi := by
  simp [Lit.wf, h0, h1] at h
  exact ⟨n.toNat, by omega, by omega⟩
end Go.Proofs.YtflddokngplgiaaDoor
