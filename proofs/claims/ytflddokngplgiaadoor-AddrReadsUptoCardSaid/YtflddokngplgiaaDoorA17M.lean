import Derived.Test.YtflddokngplgiaaDoorA15M
import Derived.Test.YtflddokngplgiaaDoorA8dM
import Derived.StillTailTactics
import Derived.RegionTactic
import Derived.Deep.RegionHeld3
import Derived.Test.YtflddokngplgiaaDoorSBM
namespace Go.Proofs.YtflddokngplgiaaDoor
open Go.RowKit
/-- four decimal numbers at the end as two pieces -/
def mixL (l : List UInt8) : List UInt8 := match v4O (lastP 58 l) with
  | some n => if tv4 n = lastP 58 l then l.take (l.length - (lastP 58 l).length) ++ txtP [n / 65536, n % 65536] else l
  | none => l
theorem v4O_lt {l : List UInt8} {n : Nat} (h : v4O l = some n) : n < 4294967296 := by
  have key : ∀ (ps : List (List UInt8)) (k acc : Nat), k + ps.length ≤ 4 → acc + pw k ≤ 4294967296 → ∀ n, sum4 k ps = some n → acc + n < 4294967296 := by
    intro ps
    induction ps with
    | nil => intro k acc _ _ n h; simp [sum4] at h
    | cons p r ih =>
      intro k acc hk ha n h
      cases r with
      | nil =>
        rw [sum4] at h
        rcases hn : numO p with _ | m
        · rw [hn] at h; cases h
        · rw [hn] at h
          simp only [Option.bind_some] at h
          split at h
          · cases h; omega
          · cases h
      | cons q r' =>
        rw [sum4] at h
        rcases hn : numO p with _ | m
        · rw [hn] at h; cases h
        · rw [hn] at h
          simp only [Option.bind_some] at h
          split at h
          · rename_i hm
            simp only [Option.map_eq_some_iff] at h
            obtain ⟨x, hx, rfl⟩ := h
            have hk3 : k = 0 ∨ k = 1 ∨ k = 2 := by simp at hk; omega
            have := ih (k + 1) (acc + m * pw (k + 1)) (by simp at hk ⊢; omega) (by rcases hk3 with rfl | rfl | rfl <;> simp only [pw] at ha ⊢ <;> omega) x hx
            omega
          · cases h
  unfold v4O v4P at h
  split at h
  · have := key _ 0 0 (by omega) (by decide) n h
    omega
  · cases h
set_option maxHeartbeats 8000000 in
set_option maxRecDepth 100000 in
theorem mixed_none (s : ByteArray) (hs : s.size ≤ 1000) (w : World) (hG : Glob w) (j : Nat) (hj : Lib.lastIndexByte s 58 = (j : Int) - 1) (hjs : j ≤ s.size) (hv : v4O (s.extract j s.size).data.toList = none) :
    Calls Tryd.prog 44 #[.string s] w fun e w' => e = .returned (.string s) ∧ Below w.heap.size w w' := by
  have HJ := Lib.hid hj
  have HC := Lib.hid (v4_is (s.extract j s.size) (by rw [ByteArray.size_extract]; omega) w hG)
  have HV := Lib.hid hv
  have hj2 : (j : Int) ≤ (s.size : Int) := by omega
  have hm0 : Tryd.prog.follows .mixedOrders = true := by kernel_rfl
  clear hj hv hG
  go_enter Tryd.func44, Tryd.ntmps44
  go_wp2_with (go_at_call 30; refine (Tryd.strings_LastIndexByte s 58 (by omega) _).mono ?_; rintro e w' ⟨rfl, hw⟩; rw [hw, show Lib.lastIndexByte s 58 = (j : Int) - 1 from HJ.out])
  refine HC.out.mono ?_
  rintro e w1 ⟨rfl, hb⟩
  have HB := Lib.hid hb
  clear hb
  rw [HV.out]
  simp only [ansE]
  go_wp2_with fail
  refine wp_region_quiet_later hm0 (by kernel_rfl) ?_
  repeat (quiet_step (fail))
  refine wpQuiet_nil ?_
  rintro _ ⟨p, rfl⟩
  have HB2 := Lib.hid (bel2 HB.out p.h)
  go_wp2_with fail
  go_ret
  exact ⟨rfl, HB2.out⟩
set_option maxHeartbeats 8000000 in
set_option maxRecDepth 100000 in
theorem mixed_other (s : ByteArray) (hs : s.size ≤ 1000) (w : World) (hG : Glob w) (j : Nat) (hj : Lib.lastIndexByte s 58 = (j : Int) - 1) (hjs : j ≤ s.size) (n : Nat) (hv : v4O (s.extract j s.size).data.toList = some n) (hne : ¬ tv4 n = (s.extract j s.size).data.toList) :
    Calls Tryd.prog 44 #[.string s] w fun e w' => e = .returned (.string s) ∧ Below w.heap.size w w' := by
  have HJ := Lib.hid hj
  have HC := Lib.hid (v4_is (s.extract j s.size) (by rw [ByteArray.size_extract]; omega) w hG)
  have HV := Lib.hid hv
  have hj2 : (j : Int) ≤ (s.size : Int) := by omega
  have hn := v4O_lt hv
  have HG := Lib.hid hG
  have hm0 : Tryd.prog.follows .mixedOrders = true := by kernel_rfl
  have hq : (tv4 n == (s.extract j s.size).toList) = false := by rw [beq_eq_false_iff_ne, ByteArray.toList_eq]; exact hne
  have hq2 : (tv4 n != (s.extract j s.size).toList) = true := by rw [bne_iff_ne, ne_eq, ByteArray.toList_eq]; exact hne
  clear hj hv hG hne
  go_enter Tryd.func44, Tryd.ntmps44
  go_wp2_with (go_at_call 30; refine (Tryd.strings_LastIndexByte s 58 (by omega) _).mono ?_; rintro e w' ⟨rfl, hw⟩; rw [hw, show Lib.lastIndexByte s 58 = (j : Int) - 1 from HJ.out])
  refine HC.out.mono ?_
  rintro e w1 ⟨rfl, hb⟩
  have HB := Lib.hid hb
  have HG1 := Lib.hid (HG.out.to hb)
  clear hb
  rw [HV.out]
  simp only [ansE]
  go_wp2_with fail
  have HT := Lib.hid (show ∀ p : Later w1, Calls Tryd.prog 17 #[.int .u32 n] p.v fun e w' => e = .returned (.string ⟨(tv4 n).toArray⟩) ∧ Below p.v.heap.size p.v w' from fun p => textV4_is n hn _ (HG1.out.to p.h))
  refine wp_region_quiet_later hm0 (by kernel_rfl) ?_
  repeat (quiet_step ((go_at_call 17; exact Calls.later_of (HT.out _))))
  refine wpQuiet_nil ?_
  rintro _ ⟨p, rfl⟩
  have HB2 := Lib.hid (bel2 HB.out p.h)
  clear hq hq2
  go_wp2_with fail
  go_ret
  exact ⟨rfl, HB2.out⟩
end Go.Proofs.YtflddokngplgiaaDoor
namespace Go.Proofs.YtflddokngplgiaaDoor
open Go.RowKit
theorem u16_two (w : World) (x y : Nat) (a b : Int) (ha : a = (x : Int)) (hb : b = (y : Int)) : U16At (w.alloc (.cells #[.int .u16 a, .int .u16 b] 26)).drew (.slice (some ⟨w.heap.size, 0, none⟩) 2 2) [x, y] := by
  subst ha; subst hb
  have h := Has.new w (.cells #[.int .u16 (x : Int), .int .u16 (y : Int)] 26)
  refine ⟨_, 2, rfl, fun k z hk => ⟨_, _, rfl, by simp, ?_⟩⟩
  match k, hk with
  | 0, hk => cases hk; exact h.cell 0 rfl
  | 1, hk => cases hk; exact h.cell 1 rfl
theorem ret_str {a b : ByteArray} (h : a = b) : Ending.returned (.string a) = .returned (.string b) := by rw [h]
theorem ba_ext {a b : ByteArray} (h : a.data.toList = b.data.toList) : a = b := by
  cases a; cases b; congr 1; exact Array.ext' h
theorem cat_take (s : ByteArray) (j : Nat) (L : List UInt8) : s.extract 0 j ++ ⟨L.toArray⟩ = ⟨(s.data.toList.take j ++ L).toArray⟩ := by
  refine ba_ext ?_
  rw [ByteArray.data_append, Array.toList_append, ext_take]
set_option maxHeartbeats 8000000 in
set_option maxRecDepth 100000 in
theorem mixed_yes (s : ByteArray) (hs : s.size ≤ 1000) (w : World) (hG : Glob w) (j : Nat) (hj : Lib.lastIndexByte s 58 = (j : Int) - 1) (hjs : j ≤ s.size) (n : Nat) (hv : v4O (s.extract j s.size).data.toList = some n) (he : tv4 n = (s.extract j s.size).data.toList) :
    Calls Tryd.prog 44 #[.string s] w fun e w' => e = .returned (.string ⟨(s.data.toList.take j ++ txtP [n / 65536, n % 65536]).toArray⟩) ∧ Below w.heap.size w w' := by
  have HJ := Lib.hid hj
  have HC := Lib.hid (v4_is (s.extract j s.size) (by rw [ByteArray.size_extract]; omega) w hG)
  have HV := Lib.hid hv
  have hj2 : (j : Int) ≤ (s.size : Int) := by omega
  have hn := v4O_lt hv
  have HG := Lib.hid hG
  have hm0 : Tryd.prog.follows .mixedOrders = true := by kernel_rfl
  have hq : (tv4 n == (s.extract j s.size).toList) = true := by rw [beq_iff_eq, ByteArray.toList_eq]; exact he
  have hq2 : (tv4 n != (s.extract j s.size).toList) = false := by rw [bne_eq_false_iff_eq, ByteArray.toList_eq]; exact he
  clear hj hv hG he
  go_enter Tryd.func44, Tryd.ntmps44
  go_wp2_with (go_at_call 30; refine (Tryd.strings_LastIndexByte s 58 (by omega) _).mono ?_; rintro e w' ⟨rfl, hw⟩; rw [hw, show Lib.lastIndexByte s 58 = (j : Int) - 1 from HJ.out])
  refine HC.out.mono ?_
  rintro e w1 ⟨rfl, hb⟩
  have HB := Lib.hid hb
  have HG1 := Lib.hid (HG.out.to hb)
  clear hb
  rw [HV.out]
  simp only [ansE]
  go_wp2_with fail
  have HT := Lib.hid (show ∀ p : Later w1, Calls Tryd.prog 17 #[.int .u32 n] p.v fun e w' => e = .returned (.string ⟨(tv4 n).toArray⟩) ∧ Below p.v.heap.size p.v w' from fun p => textV4_is n hn _ (HG1.out.to p.h))
  refine wp_region_quiet_later hm0 (by kernel_rfl) ?_
  repeat (quiet_step ((go_at_call 17; exact Calls.later_of (HT.out _))))
  refine wpQuiet_nil ?_
  rintro _ ⟨p, rfl⟩
  have HB2 := Lib.hid (bel2 HB.out p.h)
  have HG2 := Lib.hid (HG1.out.to p.h)
  clear hq hq2
  go_wp2_with fail
  have hbs : (s.data.toList.take j ++ txtP [n / 65536, n % 65536]).length ≤ 2000 := by
    have h1 := txtP_len [n / 65536, n % 65536] (fun x hx => by simp at hx; omega)
    have h2 := List.length_take_le j s.data.toList
    have h3 : s.data.toList.length = s.size := by simp
    rw [List.length_append]; simp only [List.length_cons, List.length_nil] at h1; omega
  have HBS := Lib.hid hbs
  have kw1 : IntKind.u16.wrap ((n : Int) / 65536) = (n : Int) / 65536 := by rw [IntKind.wrap_u16]; omega
  have kw2 : IntKind.u16.wrap (n : Int) = (n : Int) % 65536 := by rw [IntKind.wrap_u16]
  clear hbs
  have HW := Lib.hid (show Calls Tryd.prog 35 #[.slice (some ⟨p.v.heap.size, 0, none⟩) 2 2] (p.v.alloc (.cells #[.int .u16 ((n : Int) / 65536), .int .u16 ((n : Int) % 65536)] 26)).drew fun e w' => e = .returned (.string ⟨(txtP [n / 65536, n % 65536]).toArray⟩) ∧ Below p.v.heap.size p.v w' from
    (written_is _ [n / 65536, n % 65536] (by simp) (fun x hx => by simp at hx; omega) _ (HG2.out.to (bnew _ _).drew) (u16_two _ _ _ _ _ (by omega) (by omega))).mono fun e w' h => ⟨h.1, ((bnew _ _).drew).trans (h.2.mono (by simp))⟩)
  have hL : (txtP [n / 65536, n % 65536]).length ≤ 10 := by
    have h1 := txtP_len [n / 65536, n % 65536] (fun x hx => by simp at hx; omega)
    simpa using h1
  have hsz : (s.extract 0 j).size = min j s.size := by rw [ByteArray.size_extract]; simp
  have q1 : ¬ 9223372036854775807 < (s.extract 0 j).size + (txtP [n / 65536, n % 65536]).length := by rw [hsz]; omega
  have q2 : ¬ 9223372036854775807 < min j s.size + (txtP [n / 65536, n % 65536]).length := by omega
  have q3 : ¬ 9223372036854775807 < j + (txtP [n / 65536, n % 65536]).length := by omega
  clear hsz hL
  go_region_with (go_at_call 35; refine HW.out.mono ?_; rintro e w2 ⟨rfl, hb⟩; have HB3 := Lib.hid (bel2 HB2.out hb); clear hb)
  all_goals go_wp2_with fail
  all_goals go_ret
  all_goals exact ⟨ret_str (cat_take s j _), by first | exact HB3.out | exact HB3.out.drew⟩
theorem mixed_is (s : ByteArray) (hs : s.size ≤ 1000) (w : World) (hG : Glob w) :
    Calls Tryd.prog 44 #[.string s] w fun e w' => e = .returned (.string ⟨(mixL s.data.toList).toArray⟩) ∧ Below w.heap.size w w' := by
  obtain ⟨j, hj, hjs, hjl⟩ := last_at s 58
  have hp : (s.extract j s.size).data.toList = lastP 58 s.data.toList := by rw [ext_drop, hjl]
  have hpl : s.data.toList.length - (lastP 58 s.data.toList).length = j := by
    rw [← hjl, List.length_drop]
    have : s.data.toList.length = s.size := by simp
    omega
  have hself : s = ⟨s.data.toList.toArray⟩ := by simp
  unfold mixL
  rcases hv : v4O (lastP 58 s.data.toList) with _ | n
  · have := mixed_none s hs w hG j hj hjs (by rw [hp]; exact hv)
    rw [hself] at this
    simpa using this
  · by_cases he : tv4 n = lastP 58 s.data.toList
    · simp only [if_pos he]
      rw [hpl]
      exact mixed_yes s hs w hG j hj hjs n (by rw [hp]; exact hv) (by rw [hp]; exact he)
    · simp only [if_neg he]
      have := mixed_other s hs w hG j hj hjs n (by rw [hp]; exact hv) (by rw [hp]; exact he)
      simpa using this
end Go.Proofs.YtflddokngplgiaaDoor
namespace Go.Proofs.YtflddokngplgiaaDoor
open Go.RowKit Go.Shelf
attribute [local go_sem] Oper.semAt_some
/-- a part that is not long -/
abbrev PL := { p : List UInt8 // p.length ≤ 1000 }
def encS (x : PL) : Array Value := #[.string ⟨x.1.toArray⟩]
def boxLen (W : World) (bx : Nat) : Nat := match W.cell? ⟨bx, 0, none⟩ with | some (.string t) => t.size | _ => 0
theorem len_list (t : ByteArray) : t.data.toList.length = t.size := by rw [Array.length_toList]; rfl
theorem idx_is (t : ByteArray) (i : Int) (h : Lib.indexByte t.data.toList 58 = i) (w : World) :
    Calls Tryd.prog 52 #[.string t, .string ⟨#[58]⟩] w fun e w' => e = .returned (.int .i64 i) ∧ w = w' :=
  (Tryd.strings_Index_one t 58 w).mono fun _ _ ⟨h1, h2⟩ => ⟨by rw [h1, h], h2.symm⟩
set_option maxRecDepth 100000 in
set_option maxHeartbeats 4000000 in
theorem iter_col (n : Nat) (hn : 2 ≤ n) (bs be bv : Nat) (u : ByteArray) (hu : u.size ≤ 1000) (w : World) (hbs : w.heap[bs]? = some (.cells #[.string u] 9 (0, 0))) (hbe : w.heap[be]? = some (.cells #[.string ⟨#[58]⟩] 9 (0, 0))) (hbv : w.heap[bv]? = some (.cells #[.int .i64 0] 3 (0, 0))) (hne : bs ≠ be) :
    SeqBox Fence.wide n Tryd.prog 85 #[.pointer (some ⟨be, 0, none⟩), .pointer (some ⟨bs, 0, none⟩), .pointer (some ⟨bv, 0, none⟩)] encS 9 bs [bs, be, bv] (fun xs => xs.map Subtype.val = partsAt 58 u.data.toList) (fun xs => xs.map Subtype.val <+: partsAt 58 u.data.toList) (partsAt 58 u.data.toList).length w := by
  intro l J Jx W hW hJ hJx hY h0
  have hbW := (hW bs (by simp)).trans hbs
  have heW := (hW be (by simp)).trans hbe
  have hvW := (hW bv (by simp)).trans hbv
  clear hW hbs hbe hbv
  refine callsIn_of_wp Tryd.func85 rfl trivial ?_ rfl
  simp only [Tryd.ntmps85, List.size_toArray, List.length_cons, List.length_nil, Nat.reduceAdd, Nat.reduceSub, Array.replicate_succ, Array.replicate_zero, List.push_toArray, List.append_toArray, List.nil_append, List.cons_append]
  have bE : Boxed W be 9 (.string ⟨#[58]⟩) := heW
  have cE := bE.cell
  gi_wp2_with fail
  gi_loopw [7] (fun _ wr => ∃ (pre : List PL) (t : ByteArray), Boxed wr bs 9 (.string t) ∧ t.size ≤ 1000 ∧ Hid (partsAt 58 u.data.toList = pre.map Subtype.val ++ partsAt 58 t.data.toList) ∧ J pre wr ∧ Boxed wr be 9 (.string ⟨#[58]⟩) ∧ Boxed wr bv 3 (.int .i64 0))
    (fun _ wr => boxLen wr bs)
  case atStart =>
    exact ⟨[], u, hbW, hu, Lib.hid rfl, h0, heW, hvW⟩
  case round =>
    obtain ⟨pre, t, hbx, ht, HP, hJs, hbe, hbv⟩ := hrel
    have hcell := hbx.cell
    have hfr := hbx.frozen
    have hec := hbe.cell
    have hvc := hbv.cell
    rcases idx_cases t.data.toList 58 with ⟨hix, hno⟩ | ⟨i, hix, hil, hat, hno⟩
    · have HX := Lib.hid hix
      have hpm := partsAt_miss 58 _ hno
      have HM := Lib.hid hpm
      have hlen : pre.length < (partsAt 58 u.data.toList).length := by rw [HP.out, hpm]; simp
      clear hix hno hpm
      gi_wp2_with fail
      refine ⟨trivial, fun _ => by omega, ?_⟩
      refine (callsIn_wide.2 (idx_is t _ HX.out _)).mono ?_
      rintro e w1 ⟨rfl, rfl⟩
      obtain ⟨fn, tmps, assign, body, hy, hR⟩ := hY pre ⟨t.data.toList, by rw [len_list]; exact ht⟩ wr hJs hlen
      dsimp only [encS] at hy
      rw [Array.toArray_toList] at hy
      gi_wp2_with fail
      refine ⟨fun _ => by omega, ?_⟩
      refine hR.mono ?_
      rintro e W3 (⟨rfl, hJ3, hb3⟩ | ⟨rfl, hJx3⟩)
      · gi_wp2_with fail
        refine bodyPost_end (results_none rfl _ _ _) rfl ?_
        exact ⟨⟨_, rfl⟩, .inl ⟨_, by rw [HP.out, HM.out]; simp, hJ3⟩⟩
      · gi_wp2_with fail
        refine bodyPost_end (results_none rfl _ _ _) rfl ?_
        exact ⟨⟨_, rfl⟩, .inr ⟨_, by rw [HP.out, HM.out]; simp, hJx3⟩⟩
    · have hir : i < t.size := by rw [len_list] at hil; exact hil
      have HX := Lib.hid hix
      have hpc := partsAt_idx 58 _ i hil hat hno
      have HC := Lib.hid hpc
      have hlen : pre.length < (partsAt 58 u.data.toList).length := by rw [HP.out, hpc]; simp
      have c0 : ¬ ((i : Int) < 0) := by omega
      have c2 : (↑i : Int) ≤ ↑t.size := by omega
      have c3 : (0 : Int) ≤ ↑i + 1 := by omega
      have c4 : (↑i + 1 : Int) ≤ ↑t.size := by omega
      clear hix hno hpc hat hil
      gi_wp2_with fail
      refine ⟨trivial, fun _ => by omega, ?_⟩
      refine (callsIn_wide.2 (idx_is t _ HX.out _)).mono ?_
      rintro e w1 ⟨rfl, rfl⟩
      obtain ⟨fn, tmps, assign, body, hy, hR⟩ := hY pre ⟨t.data.toList.take i, by rw [List.length_take, len_list]; omega⟩ wr hJs hlen
      have hpt : (⟨(t.data.toList.take i).toArray⟩ : ByteArray) = t.extract 0 i := by rw [← ext_take, Array.toArray_toList]
      dsimp only [encS] at hy
      rw [hpt] at hy
      gi_wp2_with fail
      refine ⟨fun _ => by omega, ?_⟩
      refine hR.mono ?_
      rintro e W3 (⟨rfl, hJ3, hb3⟩ | ⟨rfl, hJx3⟩)
      · have hbx3 : Boxed W3 bs 9 (.string t) := (hb3 bs (by simp)).trans hbx
        have hbe3 : Boxed W3 be 9 (.string ⟨#[58]⟩) := (hb3 be (by simp)).trans hbe
        have hbv3 : Boxed W3 bv 3 (.int .i64 0) := (hb3 bv (by simp)).trans hbv
        have hc3 := hbx3.cell
        have hf3 := hbx3.frozen
        have he3 := hbe3.cell
        have hv3 := hbv3.cell
        have hJ4 := hJ _ _ _ _ hJ3 (grownBy_setCell' W3 bs (.string (t.extract (i + 1) t.size))) (fun r e => by cases e; exact ⟨rfl, ⟨t, hbx3⟩, ⟨_, hbx3.set _⟩⟩)
        have hxs : (t.extract (i + 1) t.size).size = t.size - (i + 1) := by rw [ByteArray.size_extract]; omega
        have HXS := Lib.hid hxs
        have hvs : bv ≠ bs := by
          intro e; rw [e] at hbv3
          have := hbv3.symm.trans hbx3
          simp at this
        clear hxs
        gi_wp2_with fail
        go_roundw
        case rel =>
          exact ⟨pre ++ [⟨t.data.toList.take i, by rw [List.length_take, len_list]; omega⟩], t.extract (i + 1) t.size, hbx3.set _, by rw [HXS.out]; omega, Lib.hid (by rw [HP.out, HC.out, ext_drop]; simp), hJ4, (Below.heap_setCell _ _ _ _ (by exact fun e => hne e.symm)).trans hbe3, (Below.heap_setCell _ _ _ _ hvs).trans hbv3⟩
        case measure =>
          have e1 : boxLen wr bs = t.size := by unfold boxLen; rw [hcell]
          have e2 : boxLen (W3.setCell ⟨bs, 0, none⟩ (.string (t.extract (i + 1) t.size))) bs = t.size - (i + 1) := by
            unfold boxLen; rw [(hbx3.set (.string (t.extract (i + 1) t.size))).cell]; exact HXS.out
          rw [e1, e2]; omega
      · gi_wp2_with fail
        refine bodyPost_ret (results_none rfl _ _ _) rfl ?_
        refine ⟨⟨_, rfl⟩, .inr ⟨_, ?_, hJx3⟩⟩
        rw [HP.out, HC.out]
        exact ⟨partsAt 58 (t.data.toList.drop (i + 1)), by simp⟩
end Go.Proofs.YtflddokngplgiaaDoor
