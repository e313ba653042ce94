import Derived.Test.YtamhmpgaapgmbaaDoorA17
import Derived.RegionTactic
import Derived.Deep.RegionHeld3
namespace Go.Proofs.YtamhmpgaapgmbaaDoor
open Go.RowKit
theorem u16_two (w : World) (x y : Nat) (a b : Int) (ha : a = (x : Int)) (hb : b = (y : Int)) : U16At (w.alloc (.cells #[.int .u16 a, .int .u16 b] 26)).drew (.slice (some ⟨w.heap.size, 0, none⟩) 2 2) [x, y] := by
  subst ha; subst hb
  have h := Has.new w (.cells #[.int .u16 (x : Int), .int .u16 (y : Int)] 26)
  refine ⟨_, 2, rfl, fun k z hk => ⟨_, _, rfl, by simp, ?_⟩⟩
  match k, hk with
  | 0, hk => cases hk; exact h.cell 0 rfl
  | 1, hk => cases hk; exact h.cell 1 rfl
theorem ret_str {a b : ByteArray} (h : a = b) : Ending.returned (.string a) = .returned (.string b) := by rw [h]
theorem ba_ext {a b : ByteArray} (h : a.data.toList = b.data.toList) : a = b := by
  cases a; cases b; congr 1; exact Array.ext' h
theorem cat_take (s : ByteArray) (j : Nat) (L : List UInt8) : s.extract 0 j ++ ⟨L.toArray⟩ = ⟨(s.data.toList.take j ++ L).toArray⟩ := by
  refine ba_ext ?_
  rw [ByteArray.data_append, Array.toList_append, ext_take]
set_option maxHeartbeats 8000000 in
set_option maxRecDepth 100000 in
theorem mixed_yes (s : ByteArray) (hs : s.size ≤ 1000) (w : World) (hG : Glob w) (j : Nat) (hj : Lib.lastIndexByte s 58 = (j : Int) - 1) (hjs : j ≤ s.size) (n : Nat) (hv : v4O (s.extract j s.size).data.toList = some n) (he : tv4 n = (s.extract j s.size).data.toList) :
    Calls Tryd.prog 44 #[.string s] w fun e w' => e = .returned (.string ⟨(s.data.toList.take j ++ txtP [n / 65536, n % 65536]).toArray⟩) ∧ Below w.heap.size w w' := by
  have HJ := Lib.hid hj
  have HC := Lib.hid (v4_is (s.extract j s.size) (by rw [ByteArray.size_extract]; omega) w hG)
  have HV := Lib.hid hv
  have hj2 : (j : Int) ≤ (s.size : Int) := by omega
  have hn := v4O_lt hv
  have HG := Lib.hid hG
  have hm0 : Tryd.prog.follows .mixedOrders = true := by kernel_rfl
  have hq : (tv4 n == (s.extract j s.size).toList) = true := by rw [beq_iff_eq, ByteArray.toList_eq]; exact he
  have hq2 : (tv4 n != (s.extract j s.size).toList) = false := by rw [bne_eq_false_iff_eq, ByteArray.toList_eq]; exact he
  clear hj hv hG he
  go_enter Tryd.func44, Tryd.ntmps44
  go_wp2_with (go_at_call 30; refine (Tryd.strings_LastIndexByte s 58 (by omega) _).mono ?_; rintro e w' ⟨rfl, hw⟩; rw [hw, show Lib.lastIndexByte s 58 = (j : Int) - 1 from HJ.out])
  refine HC.out.mono ?_
  rintro e w1 ⟨rfl, hb⟩
  have HB := Lib.hid hb
  have HG1 := Lib.hid (HG.out.to hb)
  clear hb
  rw [HV.out]
  simp only [ansE]
  go_wp2_with fail
  have HT := Lib.hid (show ∀ p : Later w1, Calls Tryd.prog 17 #[.int .u32 n] p.v fun e w' => e = .returned (.string ⟨(tv4 n).toArray⟩) ∧ Below p.v.heap.size p.v w' from fun p => textV4_is n hn _ (HG1.out.to p.h))
  refine wp_region_quiet_later hm0 (by kernel_rfl) ?_
  repeat (quiet_step ((go_at_call 17; exact Calls.later_of (HT.out _))))
  refine wpQuiet_nil ?_
  rintro _ ⟨p, rfl⟩
  have HB2 := Lib.hid (bel2 HB.out p.h)
  have HG2 := Lib.hid (HG1.out.to p.h)
  clear hq hq2
  go_wp2_with fail
  have hbs : (s.data.toList.take j ++ txtP [n / 65536, n % 65536]).length ≤ 2000 := by
    have h1 := txtP_len [n / 65536, n % 65536] (fun x hx => by simp at hx; omega)
    have h2 := List.length_take_le j s.data.toList
    have h3 : s.data.toList.length = s.size := by simp
    rw [List.length_append]; simp only [List.length_cons, List.length_nil] at h1; omega
  have HBS := Lib.hid hbs
  have kw1 : IntKind.u16.wrap ((n : Int) / 65536) = (n : Int) / 65536 := by rw [IntKind.wrap_u16]; omega
  have kw2 : IntKind.u16.wrap (n : Int) = (n : Int) % 65536 := by rw [IntKind.wrap_u16]
  clear hbs
  have HW := Lib.hid (show Calls Tryd.prog 35 #[.slice (some ⟨p.v.heap.size, 0, none⟩) 2 2] (p.v.alloc (.cells #[.int .u16 ((n : Int) / 65536), .int .u16 ((n : Int) % 65536)] 26)).drew fun e w' => e = .returned (.string ⟨(txtP [n / 65536, n % 65536]).toArray⟩) ∧ Below p.v.heap.size p.v w' from
    (written_is _ [n / 65536, n % 65536] (by simp) (fun x hx => by simp at hx; omega) _ (HG2.out.to (bnew _ _).drew) (u16_two _ _ _ _ _ (by omega) (by omega))).mono fun e w' h => ⟨h.1, ((bnew _ _).drew).trans (h.2.mono (by simp))⟩)
  have hL : (txtP [n / 65536, n % 65536]).length ≤ 10 := by
    have h1 := txtP_len [n / 65536, n % 65536] (fun x hx => by simp at hx; omega)
    simpa using h1
  have hsz : (s.extract 0 j).size = min j s.size := by rw [ByteArray.size_extract]; simp
  have q1 : ¬ 9223372036854775807 < (s.extract 0 j).size + (txtP [n / 65536, n % 65536]).length := by rw [hsz]; omega
  have q2 : ¬ 9223372036854775807 < min j s.size + (txtP [n / 65536, n % 65536]).length := by omega
  have q3 : ¬ 9223372036854775807 < j + (txtP [n / 65536, n % 65536]).length := by omega
  clear hsz hL
  go_region_with (go_at_call 35; refine HW.out.mono ?_; rintro e w2 ⟨rfl, hb⟩; have HB3 := Lib.hid (bel2 HB2.out hb); clear hb)
  all_goals go_wp2_with fail
  all_goals go_ret
  all_goals exact ⟨ret_str (cat_take s j _), by first | exact HB3.out | exact HB3.out.drew⟩
theorem mixed_is (s : ByteArray) (hs : s.size ≤ 1000) (w : World) (hG : Glob w) :
    Calls Tryd.prog 44 #[.string s] w fun e w' => e = .returned (.string ⟨(mixL s.data.toList).toArray⟩) ∧ Below w.heap.size w w' := by
  obtain ⟨j, hj, hjs, hjl⟩ := last_at s 58
  have hp : (s.extract j s.size).data.toList = lastP 58 s.data.toList := by rw [ext_drop, hjl]
  have hpl : s.data.toList.length - (lastP 58 s.data.toList).length = j := by
    rw [← hjl, List.length_drop]
    have : s.data.toList.length = s.size := by simp
    omega
  have hself : s = ⟨s.data.toList.toArray⟩ := by simp
  unfold mixL
  rcases hv : v4O (lastP 58 s.data.toList) with _ | n
  · have := mixed_none s hs w hG j hj hjs (by rw [hp]; exact hv)
    rw [hself] at this
    simpa using this
  · by_cases he : tv4 n = lastP 58 s.data.toList
    · simp only [if_pos he]
      rw [hpl]
      exact mixed_yes s hs w hG j hj hjs n (by rw [hp]; exact hv) (by rw [hp]; exact he)
    · simp only [if_neg he]
      have := mixed_other s hs w hG j hj hjs n (by rw [hp]; exact hv) (by rw [hp]; exact he)
      simpa using this
end Go.Proofs.YtamhmpgaapgmbaaDoor
