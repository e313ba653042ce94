import Derived.Test.YtempmmkdppelaaaGreatDoorT3M
/-
  csp's Source.
-/
namespace Go.Proofs.YtempmmkdppelaaaGreatDoor
open Go.RowKit
def kindC : Array Value := #[.int .u8 1, .func (.func 65) #[] #[], .int .u8 2, .func (.func 66) #[] #[], .int .u8 3, .func (.func 67) #[] #[], .int .u8 4, .func (.func 68) #[] #[], .int .u8 5, .func (.func 69) #[] #[]]
set_option maxHeartbeats 1000000 in
theorem kinds_is (w : World) : Calls Tryz.prog 50 #[] w fun e w' => e = .returned (.slice (some ⟨w.heap.size, 0, none⟩) 5 5) ∧ w' = w.alloc (.cells kindC 88) := by
  go_enter Tryz.func50, Tryz.ntmps50
  go_wp2
  go_ret
  exact ⟨rfl, rfl⟩
/-- what the k-th reader says -/
def rdAt (s : List UInt8) : Nat → Option Src
  | 0 => keywordP s
  | 1 => nonceP s
  | 2 => hashP s
  | 3 => schemeP s
  | _ => hostP s
def rdK (s : List UInt8) (k : Nat) : Option Src := (rdAt s k).map fun x => { x with kind := k + 1 }
/-- what a text is read as -/
def sourceD (s : List UInt8) : Option Src := [0, 1, 2, 3, 4].findSome? (rdK s)
def srcE (m : Option Src) : Except Nat Src := match m with | none => .error 20 | some x => .ok x
/-- what Source answers -/
def sourceP (s : ByteArray) : Except Nat Src := if 4096 < s.size then .error 4 else srcE (sourceD s.data.toList)
def SrcRet (st : Except Nat Src) (w : World) (e : Ending) (w' : World) : Prop :=
  (match st with
   | .error c => e = .returned (.tuple #[({} : Src).v, .int .i64 c])
   | .ok x => e = .returned (.tuple #[x.v, .int .i64 0])) ∧ Below w.heap.size w w'
theorem reader_is (s : ByteArray) (hs : s.size ≤ 2097152) (k : Nat) (hk : k < 5) (w : World) (hM : ML w) : Calls Tryz.prog (65 + k) #[.string s] w (RdRet (rdAt s.data.toList k) w) := by
  have : k = 0 ∨ k = 1 ∨ k = 2 ∨ k = 3 ∨ k = 4 := by omega
  rcases this with rfl | rfl | rfl | rfl | rfl
  · exact keyword_is s hs w
  · exact nonce_is s hs w
  · exact hash_is s hs w
  · exact scheme_is s hs w
  · exact host_is s hs w hM
theorem reader_en (k : Nat) (hk : k < 5) : ∀ args w, (callFunc (65 + k) args).run Tryz.prog w = .ok (.enter (65 + k) args) w := by
  have : k = 0 ∨ k = 1 ∨ k = 2 ∨ k = 3 ∨ k = 4 := by omega
  rcases this with rfl | rfl | rfl | rfl | rfl
  · exact enters_of Tryz.func65 (by kernel_rfl) rfl
  · exact enters_of Tryz.func66 (by kernel_rfl) rfl
  · exact enters_of Tryz.func67 (by kernel_rfl) rfl
  · exact enters_of Tryz.func68 (by kernel_rfl) rfl
  · exact enters_of Tryz.func69 (by kernel_rfl) rfl
theorem kind_at (k : Nat) (hk : k < 5) : kindC[k * 2]? = some (.int .u8 ((k : Int) + 1)) ∧ kindC[k * 2 + 1]? = some (.func (.func (65 + k)) #[] #[]) := by
  have : k = 0 ∨ k = 1 ∨ k = 2 ∨ k = 3 ∨ k = 4 := by omega
  rcases this with rfl | rfl | rfl | rfl | rfl <;> exact ⟨rfl, rfl⟩
theorem rd_five {k : Nat} {l : List Nat} (hl : l = [0, 1, 2, 3, 4]) (hk : k < 5) : l[k]? = some k := by
  have : k = 0 ∨ k = 1 ∨ k = 2 ∨ k = 3 ∨ k = 4 := by omega
  subst hl
  rcases this with rfl | rfl | rfl | rfl | rfl <;> rfl
set_option maxHeartbeats 1000000 in
set_option maxRecDepth 100000 in
theorem source_long (s : ByteArray) (h : 4096 < s.size) (hs : s.size ≤ 281474976710656) (w : World) : Calls Tryz.prog 24 #[.string s] w (SrcRet (.error 4) w) := by
  have g1 : decide ((4096 : Int) < (s.size : Int)) = true := decide_eq_true (by omega)
  obtain ⟨X, hX⟩ : ∃ X, w.alloc (.cells #[.int .u8 0, .string ⟨#[]⟩, .string ⟨#[]⟩, .bool false, .int .i64 0, .bool false, .bool false, .string ⟨#[]⟩] 46) = X := ⟨_, rfl⟩
  have HR := Lib.hid (show Has X w.heap.size (.cells ({} : Src).cs 46) from hX ▸ Has.new w _)
  have HB := Lib.hid (show Below w.heap.size w X from hX ▸ bnew w _)
  have z0 := HR.out.cell 0 rfl; have z1 := HR.out.cell 1 rfl; have z2 := HR.out.cell 2 rfl; have z3 := HR.out.cell 3 rfl; have z4 := HR.out.cell 4 rfl; have z5 := HR.out.cell 5 rfl; have z6 := HR.out.cell 6 rfl; have z7 := HR.out.cell 7 rfl; have f0 := HR.out.free 0; have f1 := HR.out.free 1; have f2 := HR.out.free 2; have f3 := HR.out.free 3; have f4 := HR.out.free 4; have f5 := HR.out.free 5; have f6 := HR.out.free 6; have f7 := HR.out.free 7
  go_enter Tryz.func24, Tryz.ntmps24
  go_wp2_with fail
  show bodyPost _ _ _ _ _ (st8 X w.heap.size {})
  exact bodyPost_ret (ret46 (p := 2) (t2 := 3) rfl _ _ w.heap.size {} (.int .i64 4) rfl rfl (st8_has (x := {}) HR.out)) rfl ⟨rfl, st8_below {} HB.out (Nat.le_refl _)⟩
set_option maxHeartbeats 2000000 in
set_option maxRecDepth 100000 in
theorem source_is (s : ByteArray) (hs : s.size ≤ 281474976710656) (w : World) (hM : ML w) : Calls Tryz.prog 24 #[.string s] w (SrcRet (sourceP s) w) := by
  unfold sourceP
  by_cases h4 : 4096 < s.size
  · rw [if_pos h4]
    exact source_long s h4 hs w
  rw [if_neg h4]
  have g1 : decide ((4096 : Int) < (s.size : Int)) = false := decide_eq_false (by omega)
  obtain ⟨sd, hsd⟩ : ∃ sd, srcE (sourceD s.data.toList) = sd := ⟨_, rfl⟩
  have HSD := Lib.hid hsd
  rw [hsd]
  clear hsd
  obtain ⟨X, hX⟩ : ∃ X, w.alloc (.cells #[.int .u8 0, .string ⟨#[]⟩, .string ⟨#[]⟩, .bool false, .int .i64 0, .bool false, .bool false, .string ⟨#[]⟩] 46) = X := ⟨_, rfl⟩
  have hsX : X.heap.size = w.heap.size + 1 := by rw [← hX]; simp
  obtain ⟨Y, hY⟩ : ∃ Y, X.alloc (.cells kindC 88) = Y := ⟨_, rfl⟩
  have HR0 := Lib.hid (show Has Y w.heap.size (.cells ({} : Src).cs 46) from hY ▸ (show Has X w.heap.size (.cells ({} : Src).cs 46) from hX ▸ Has.new w _).alloc _)
  have HK0 := Lib.hid (show Has Y (w.heap.size + 1) (.cells kindC 88) from by rw [← hY, ← hsX]; exact Has.new X _)
  have HB0 := Lib.hid (show Below w.heap.size w Y from hY ▸ (show Below w.heap.size w X from hX ▸ bnew w _).alloc (by omega) _)
  have HM0 := Lib.hid (hM.to HB0.out)
  have HK := Lib.hid (show Calls Tryz.prog 50 #[] X fun e w' => e = .returned (.slice (some ⟨w.heap.size + 1, 0, none⟩) 5 5) ∧ w' = Y from by
    have := kinds_is X
    rw [hsX, hY] at this; exact this)
  have hsY : Y.heap.size = w.heap.size + 2 := by rw [← hY, World.size_alloc]; omega
  clear hY hM
  go_enter Tryz.func24, Tryz.ntmps24
  go_wp2_with (go_at_call 50; refine HK.out.mono ?_; rintro e w1 ⟨rfl, hw1⟩; rw [hw1]; clear hw1)
  clear hX hsX HK
  clear X
  go_loopw [14] (fun i wr => ∃ k : Nat, k ≤ 5 ∧ i = .int .i64 k ∧ Hid (∀ (j : Nat) (z : Nat), j < k → ([0, 1, 2, 3, 4] : List Nat)[j]? = some z → rdK s.data.toList z = none) ∧ Hid (Below Y.heap.size Y wr)) (fun i _ => 5 - (intOf i).toNat)
  case atStart => exact ⟨0, by omega, rfl, Lib.hid (by intro j x hj; omega), Lib.hid (Below.refl _ _)⟩
  case round =>
    obtain ⟨k, hk, rfl, HE, HB⟩ := hrel
    by_cases hlt : k < 5
    · have i1 : (k : Int) < 5 := by omega
      have i2 : k * 2 + 1 < 10 := by omega
      have hy0 := (HK0.out.to HB.out).cell (k * 2) (kind_at k hlt).1
      have hy1 := (HK0.out.to HB.out).cell (k * 2 + 1) (kind_at k hlt).2
      have hen := reader_en k hlt
      have HRD := Lib.hid (show ∀ W : World, ML W → Calls Tryz.prog (65 + k) #[.string s] W (fun e w' => (∃ y : Src, e = .returned (.tuple #[.agg #[.int .u8 y.kind, .string y.text, .string y.scheme, .bool y.wild, .int .i64 y.port, .bool y.hasPort, .bool y.anyPort, .string y.path], .bool (rdAt s.data.toList k).isSome]) ∧ ∀ z, rdAt s.data.toList k = some z → y = z) ∧ Below W.heap.size W w') from fun (W : World) (h : ML W) => reader_is s (by omega) k hlt W h)
      have HMr := Lib.hid (HM0.out.to HB.out)
      have hn : ([0, 1, 2, 3, 4] : List Nat)[k]? = some k := rd_five rfl hlt
      obtain ⟨a, ha⟩ : ∃ a, rdK s.data.toList k = a := ⟨_, rfl⟩
      have HH := Lib.hid (show ∀ x : Src, a = some x → sourceD s.data.toList = some x from fun x hx => find_hit _ _ k k x HE.out hn (by rw [ha, hx]))
      have HN := Lib.hid (show a = none → ∀ (j : Nat) z, j < k + 1 → ([0, 1, 2, 3, 4] : List Nat)[j]? = some z → rdK s.data.toList z = none from fun he j z hj hz => by
        by_cases hjk : j = k
        · subst hjk; rw [hn] at hz; cases hz; rw [ha, he]
        · exact HE.out j z (by omega) hz)
      unfold rdK at ha
      generalize rdAt s.data.toList k = rd at *
      clear hn HE
      generalize 65 + k = g at *
      cases rd with
      | none =>
        obtain rfl : a = none := ha.symm
        clear HH ha
        rw [show (none : Option Src).isSome = false from rfl] at HRD
        go_wp2_with fail
        refine (HRD.out _ (HMr.out.to (bnew wr _))).mono ?_
        rintro e w2 ⟨⟨y, rfl, -⟩, hb2⟩
        have HB2 := Lib.hid (HB.out.trans ((bel2 (bnew wr _) hb2).mono HB.out.size))
        clear hb2
        go_wp2_with fail
        go_roundw
        case rel => exact ⟨k + 1, by omega, by go_num, Lib.hid (HN.out trivial), Lib.hid (HB2.out.alloc HB2.out.size _)⟩
        case measure => simp [intOf]; omega
      | some x =>
        have ha2 : a = some { x with kind := k + 1 } := ha.symm
        have HR := Lib.hid (HSD.out.symm.trans (congrArg srcE (HH.out _ ha2)))
        clear HH ha HN ha2
        rw [show (some x : Option Src).isSome = true from rfl] at HRD
        go_wp2_with fail
        refine (HRD.out _ (HMr.out.to (bnew wr _))).mono ?_
        rintro e w2 ⟨⟨y, rfl, hyx⟩, hb2⟩
        obtain rfl : y = x := hyx x rfl
        have HB2 := Lib.hid (HB.out.trans ((bel2 (bnew wr _) hb2).mono HB.out.size))
        have hF := ((Has.new wr (.cells #[.int .u8 ((k : Int) + 1), .func (.func g) #[] #[]] 88)).to hb2).alloc (.cells #[.int .u8 y.kind, .string y.text, .string y.scheme, .bool y.wild, .int .i64 y.port, .bool y.hasPort, .bool y.anyPort, .string y.path] 46)
        have z5 := hF.cell 0 rfl
        have hF2 := ((Has.new wr (.cells #[.int .u8 ((k : Int) + 1), .func (.func g) #[] #[]] 88)).to hb2).alloc (.cells #[.int .u8 ((k : Int) + 1), .string y.text, .string y.scheme, .bool y.wild, .int .i64 y.port, .bool y.hasPort, .bool y.anyPort, .string y.path] 46)
        have z6 := hF2.cell 0 rfl
        have HRW := Lib.hid ((HR0.out.to HB2.out).alloc (.cells #[.int .u8 ((k : Int) + 1), .string y.text, .string y.scheme, .bool y.wild, .int .i64 y.port, .bool y.hasPort, .bool y.anyPort, .string y.path] 46))
        have HBW := Lib.hid ((HB0.out.trans (HB2.out.mono HB0.out.size)).alloc (Nat.le_trans HB0.out.size HB2.out.size) (.cells #[.int .u8 ((k : Int) + 1), .string y.text, .string y.scheme, .bool y.wild, .int .i64 y.port, .bool y.hasPort, .bool y.anyPort, .string y.path] 46))
        have z10 := HRW.out.cell 0 rfl; have z11 := HRW.out.cell 1 rfl; have z12 := HRW.out.cell 2 rfl; have z13 := HRW.out.cell 3 rfl; have z14 := HRW.out.cell 4 rfl; have z15 := HRW.out.cell 5 rfl; have z16 := HRW.out.cell 6 rfl; have z17 := HRW.out.cell 7 rfl; have f10 := HRW.out.free 0; have f11 := HRW.out.free 1; have f12 := HRW.out.free 2; have f13 := HRW.out.free 3; have f14 := HRW.out.free 4; have f15 := HRW.out.free 5; have f16 := HRW.out.free 6; have f17 := HRW.out.free 7
        clear hb2 hF hF2
        go_wp2_with fail
        generalize w2.alloc (.cells #[.int .u8 ((k : Int) + 1), .string y.text, .string y.scheme, .bool y.wild, .int .i64 y.port, .bool y.hasPort, .bool y.anyPort, .string y.path] 46) = V at *
        show bodyPost _ _ _ _ _ (st8 V w.heap.size { y with kind := k + 1 })
        rw [HR.out]
        exact bodyPost_ret (ret46 (p := 2) (t2 := 3) rfl _ _ w.heap.size { y with kind := k + 1 } (.int .i64 0) rfl rfl (st8_has (x := { y with kind := k + 1 }) HRW.out)) rfl ⟨rfl, st8_below { y with kind := k + 1 } HBW.out (Nat.le_refl _)⟩
    · have HR := Lib.hid (HSD.out.symm.trans (congrArg srcE (show sourceD s.data.toList = none from find_miss _ _ fun j z hz => HE.out j z (by have := (List.getElem?_eq_some_iff.1 hz).1; simp at this; omega) hz)))
      have HRW := Lib.hid (HR0.out.to HB.out)
      have HBW := Lib.hid (HB0.out.trans (HB.out.mono HB0.out.size))
      have z10 := HRW.out.cell 0 rfl; have z11 := HRW.out.cell 1 rfl; have z12 := HRW.out.cell 2 rfl; have z13 := HRW.out.cell 3 rfl; have z14 := HRW.out.cell 4 rfl; have z15 := HRW.out.cell 5 rfl; have z16 := HRW.out.cell 6 rfl; have z17 := HRW.out.cell 7 rfl; have f10 := HRW.out.free 0; have f11 := HRW.out.free 1; have f12 := HRW.out.free 2; have f13 := HRW.out.free 3; have f14 := HRW.out.free 4; have f15 := HRW.out.free 5; have f16 := HRW.out.free 6; have f17 := HRW.out.free 7
      have hk5 : k = 5 := by omega
      subst hk5
      clear HE hlt hk
      go_wp2_with fail
      show bodyPost _ _ _ _ _ (st8 wr w.heap.size {})
      rw [HR.out]
      exact bodyPost_ret (ret46 (p := 2) (t2 := 3) rfl _ _ w.heap.size {} (.int .i64 20) rfl rfl (st8_has (x := {}) HRW.out)) rfl ⟨rfl, st8_below {} HBW.out (Nat.le_refl _)⟩
end Go.Proofs.YtempmmkdppelaaaGreatDoor
/-
  The document's SameWords.
-/
namespace Go.Proofs.YtempmmkdppelaaaGreatDoor
open Go.RowKit
theorem toList_inj {x y : ByteArray} (h : x.toList = y.toList) : x = y := by
  rw [ByteArray.toList_eq, ByteArray.toList_eq] at h
  exact ByteArray.ext (Array.toList_inj.1 h)
theorem eq_of_get {α : Type} {a b : List α} (hl : a.length = b.length) (h : ∀ (j : Nat) x y, j < a.length → a[j]? = some x → b[j]? = some y → x = y) : a = b := by
  apply List.ext_getElem hl
  intro i h1 h2
  exact h i _ _ h1 (getT h1) (getT h2)
set_option maxHeartbeats 1000000 in
set_option maxRecDepth 100000 in
theorem sameWords_is (va vb : Value) (la lb : List ByteArray) (ma : la.length ≤ 140737488355328) (mb : lb.length ≤ 140737488355328) (w : World) (ha : Strs w va la) (hb : Strs w vb lb) (r : Bool) (hr : decide (la = lb) = r) :
    Calls Tryz.prog 49 #[va, vb] w fun e w' => e = .returned (.bool r) ∧ Below w.heap.size w w' := by
  obtain ⟨pa, ca, rfl, hA⟩ := ha
  obtain ⟨pb, cb, rfl, hB⟩ := hb
  obtain ⟨n, hn⟩ : ∃ n, la.length = n := ⟨_, rfl⟩
  have HA := Lib.hid hA
  have HB := Lib.hid hB
  have HR := Lib.hid hr
  clear hA hB hr
  by_cases hne : la.length = lb.length
  · have hnb : lb.length = n := by omega
    have HN := Lib.hid (And.intro hn hnb)
    rw [hn, hnb]
    rw [hn] at ma
    clear hn hnb mb hne
    have g1 : ((n : Int) != (n : Int)) = false := by simp
    go_enter Tryz.func49, Tryz.ntmps49
    go_wp2_with fail
    go_loopw [13] (fun i wr => ∃ k : Nat, k ≤ n ∧ i = .int .i64 k ∧ Hid (∀ (j : Nat) x y, j < k → la[j]? = some x → lb[j]? = some y → x = y) ∧ Hid (Below w.heap.size w wr)) (fun i _ => n - (intOf i).toNat)
    case atStart => exact ⟨0, by omega, rfl, Lib.hid (fun j x y hj => by omega), Lib.hid (Below.refl _ _)⟩
    case round =>
      obtain ⟨k, hk, rfl, HE, HW⟩ := hrel
      by_cases hlt : k < n
      · have hka : k < la.length := by rw [HN.out.1]; exact hlt
        have hkb : k < lb.length := by rw [HN.out.2]; exact hlt
        obtain ⟨g, o, rfl, hg, hx⟩ := HA.out k la[k] (getT hka)
        obtain ⟨g', o', rfl, hg', hy⟩ := HB.out k lb[k] (getT hkb)
        have hx2 := (HW.out.cell (p := ⟨g, o + k, none⟩) hg).trans hx
        have hy2 := (HW.out.cell (p := ⟨g', o' + k, none⟩) hg').trans hy
        have i1 : (k : Int) < (n : Int) := by omega
        have HS := Lib.hid (show la[k] = lb[k] → ∀ (j : Nat) x y, j < k + 1 → la[j]? = some x → lb[j]? = some y → x = y from fun e j x y hj h1 h2 => by
          by_cases hjk : j = k
          · subst hjk; rw [getT hka] at h1; rw [getT hkb] at h2; cases h1; cases h2; exact e
          · exact HE.out j x y (by omega) h1 h2)
        have HF := Lib.hid (show ¬ la[k] = lb[k] → r = false from fun e => by
          rw [← HR.out]
          exact decide_eq_false fun h => e (by subst h; rfl))
        clear hx hy HE HA HB
        generalize la[k] = x at *
        generalize lb[k] = y at *
        clear hka hkb
        by_cases hxy : x = y
        · subst hxy
          have g2 : (x.toList != x.toList) = false := by simp
          go_wp2_with fail
          go_quiet (fail)
          go_wp2_with fail
          go_roundw
          case rel => exact ⟨k + 1, by omega, by go_num, Lib.hid (HS.out trivial), Lib.hid (below_dn HW.out nq)⟩
          case measure => simp [intOf]; omega
        · have g2 : (x.toList == y.toList) = false := beq_eq_false_iff_ne.2 fun h => hxy (toList_inj h)
          have g3 : (!(x.toList == y.toList)) = true := by rw [g2]; rfl
          have HF2 := Lib.hid (HF.out hxy)
          clear hxy HS HF
          go_wp2_with fail
          go_quiet (fail)
          go_wp2_with fail
          go_ret
          exact ⟨ret_bool HF2.out.symm, below_dn HW.out nq⟩
      · have HT := Lib.hid (show r = true by
          rw [← HR.out]
          refine decide_eq_true (eq_of_get (HN.out.1.trans HN.out.2.symm) fun j x y hj h1 h2 => HE.out j x y (by rw [HN.out.1] at hj; omega) h1 h2)
        )
        have hkn : k = n := by omega
        clear HE
        go_wp2_with fail
        go_ret
        exact ⟨ret_bool HT.out.symm, HW.out⟩
  · have g1 : ((la.length : Int) != (lb.length : Int)) = true := by rw [bne_iff_ne]; omega
    have HF := Lib.hid (show r = false by rw [← HR.out]; exact decide_eq_false fun h => hne (by rw [h]))
    clear hn hne
    go_enter Tryz.func49, Tryz.ntmps49
    go_wp2_with fail
    go_ret
    exact ⟨ret_bool HF.out.symm, Below.refl _ _⟩
/-- two directives are one -/
def sameD (a b : Dir) : Bool := decide (a.1 = b.1) && decide (a.2 = b.2)
set_option maxHeartbeats 1000000 in
set_option maxRecDepth 100000 in
theorem sameDirective_is (va vb : Value) (a b : Dir) (ma : a.2.length ≤ 140737488355328) (mb : b.2.length ≤ 140737488355328) (w : World) (ha : Strs w va a.2) (hb : Strs w vb b.2) (r : Bool) (hr : sameD a b = r) :
    Calls Tryz.prog 23 #[.agg #[.string a.1, va], .agg #[.string b.1, vb]] w fun e w' => e = .returned (.bool r) ∧ Below w.heap.size w w' := by
  obtain ⟨x, la⟩ := a
  obtain ⟨y, lb⟩ := b
  have ha' := ha
  have hb' := hb
  obtain ⟨pa, ca, rfl, _⟩ := ha
  obtain ⟨pb, cb, rfl, _⟩ := hb
  obtain ⟨X, hX⟩ : ∃ X, (w.alloc (.cells #[.string x, .slice pa la.length ca] 35)).alloc (.cells #[.string y, .slice pb lb.length cb] 35) = X := ⟨_, rfl⟩
  have hB0 : Below w.heap.size w X := hX ▸ (bnew w _).alloc (by simp) _
  have h0 : Has X w.heap.size (.cells #[.string x, .slice pa la.length ca] 35) := hX ▸ (Has.new w _).alloc _
  have h1 : Has X (w.heap.size + 1) (.cells #[.string y, .slice pb lb.length cb] 35) := by
    have := Has.new (w.alloc (.cells #[.string x, .slice pa la.length ca] 35)) (.cells #[.string y, .slice pb lb.length cb] 35)
    rw [hX, World.size_alloc] at this; exact this
  have x0 := h0.cell 0 rfl
  have x1 := h0.cell 1 rfl
  have y0 := h1.cell 0 rfl
  have y1 := h1.cell 1 rfl
  have HB := Lib.hid hB0
  have HSW := Lib.hid (fun (r : Bool) (hr : decide (la = lb) = r) => sameWords_is (.slice pa la.length ca) (.slice pb lb.length cb) la lb ma mb X (ha'.to hB0) (hb'.to hB0) r hr)
  unfold sameD at hr
  simp only at hr
  clear ha' hb' hB0 h0 h1 ma mb
  generalize la.length = na at *
  generalize lb.length = nb at *
  by_cases hxy : x = y
  · subst hxy
    rw [decide_eq_true rfl, Bool.true_and] at hr
    have HS2 := Lib.hid (HSW.out r hr)
    clear hr HSW
    have g1 : (x.toList == x.toList) = true := by simp
    go_enter Tryz.func23, Tryz.ntmps23
    go_wp2_with (go_at_call 49; refine HS2.out.mono ?_; rintro e w1 ⟨rfl, hb1⟩; have HB1 := Lib.hid (HB.out.trans (hb1.mono HB.out.size)); clear hb1)
    go_ret
    exact ⟨rfl, HB1.out⟩
  · rw [decide_eq_false hxy, Bool.false_and] at hr
    subst hr
    have g1 : (x.toList == y.toList) = false := beq_eq_false_iff_ne.2 fun h => hxy (toList_inj h)
    clear hxy HSW
    go_enter Tryz.func23, Tryz.ntmps23
    go_wp2_with fail
    go_ret
    exact ⟨rfl, HB.out⟩
end Go.Proofs.YtempmmkdppelaaaGreatDoor
