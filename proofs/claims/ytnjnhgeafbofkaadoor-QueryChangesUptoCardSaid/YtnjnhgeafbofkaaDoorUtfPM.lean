import Derived.Test.YtnjnhgeafbofkaaDoorRefCM
import Derived.Test.YtnjnhgeafbofkaaDoorUtfDM
import Derived.Test.YtnjnhgeafbofkaaDoorUtfFM
namespace Go.Proofs.YtnjnhgeafbofkaaDoor
open Go.RowKit
def begT (b : Nat) : Value := match U.lead b with
  | some (l, r, lo, hi) => .tuple #[.int .i64 l, .int .i32 r, .int .u8 lo, .int .u8 hi]
  | none => .tuple #[.int .i64 (-1), .int .i32 0, .int .u8 0, .int .u8 0]
theorem begT_none {b : Nat} (h : U.lead b = none) : begT b = .tuple #[.int .i64 (-1), .int .i32 0, .int .u8 0, .int .u8 0] := by unfold begT; rw [h]
theorem begT_some {b l r lo hi : Nat} (h : U.lead b = some (l, r, lo, hi)) : begT b = .tuple #[.int .i64 l, .int .i32 r, .int .u8 lo, .int .u8 hi] := by unfold begT; rw [h]
theorem ret_four {a a' b b' c c' d d' : Int} (h1 : a = a') (h2 : b = b') (h3 : c = c') (h4 : d = d') : Ending.returned (.tuple #[.int .i64 a, .int .i32 b, .int .u8 c, .int .u8 d]) = Ending.returned (.tuple #[.int .i64 a', .int .i32 b', .int .u8 c', .int .u8 d']) := by rw [h1, h2, h3, h4]
def BegOk (b : Nat) : Prop := ∀ w : World, Calls Tryd.prog 89 #[.int .u8 b] w fun e w' => e = .returned (begT b) ∧ w = w'
theorem results_tmp4 {fn : Func} {t u v x : Tmp} (h : fn.results = #[.tmp t, .tmp u, .tmp v, .tmp x]) (tmps : Array Value) (P : Program) (w : World) :
    (results fn tmps).run P w = .ok (.tuple #[tmps.getD t undef, tmps.getD u undef, tmps.getD v undef, tmps.getD x undef]) w := by
  simp [results, h]
set_option maxRecDepth 20000 in
set_option maxHeartbeats 4000000 in
theorem beg_low (b : Nat) (h1 : 128 ≤ b) (h2 : b < 194) : BegOk b := by
  intro w
  have H := Lib.hid (begT_none (U.lead_none b (by omega)))
  rw [H.out]
  have n0 : ((b : Int) == 224) = false := by rw [beq_eq_false_iff_ne]; omega
  have n1 : ((b : Int) == 237) = false := by rw [beq_eq_false_iff_ne]; omega
  have n2 : ((b : Int) == 240) = false := by rw [beq_eq_false_iff_ne]; omega
  have n3 : ((b : Int) == 244) = false := by rw [beq_eq_false_iff_ne]; omega
  go_enter Tryd.func89, Tryd.ntmps89
  go_wp2
  (try simp only [Exit.inBlock, Exit.then])
  refine bodyPost_ret (results_tmp4 rfl _ _ _) rfl ?_
  exact ⟨ret_four (by first | rfl | omega) (by first | rfl | (simp; omega) | omega) (by first | rfl | simp | omega) (by first | rfl | simp | omega), rfl⟩
set_option maxRecDepth 20000 in
set_option maxHeartbeats 4000000 in
theorem beg_high (b : Nat) (h1 : 245 ≤ b) : BegOk b := by
  intro w
  have H := Lib.hid (begT_none (U.lead_none b (by omega)))
  rw [H.out]
  have n0 : ((b : Int) == 224) = false := by rw [beq_eq_false_iff_ne]; omega
  have n1 : ((b : Int) == 237) = false := by rw [beq_eq_false_iff_ne]; omega
  have n2 : ((b : Int) == 240) = false := by rw [beq_eq_false_iff_ne]; omega
  have n3 : ((b : Int) == 244) = false := by rw [beq_eq_false_iff_ne]; omega
  go_enter Tryd.func89, Tryd.ntmps89
  go_wp2
  (try simp only [Exit.inBlock, Exit.then])
  refine bodyPost_ret (results_tmp4 rfl _ _ _) rfl ?_
  exact ⟨ret_four (by first | rfl | omega) (by first | rfl | (simp; omega) | omega) (by first | rfl | simp | omega) (by first | rfl | simp | omega), rfl⟩
set_option maxRecDepth 20000 in
set_option maxHeartbeats 4000000 in
theorem beg_2 (b : Nat) (h1 : 194 ≤ b) (h2 : b < 224) : BegOk b := by
  intro w
  have H := Lib.hid (begT_some (U.lead2 b h2 h1))
  rw [H.out]
  go_enter Tryd.func89, Tryd.ntmps89
  go_wp2
  (try simp only [Exit.inBlock, Exit.then])
  refine bodyPost_ret (results_tmp4 rfl _ _ _) rfl ?_
  exact ⟨ret_four (by first | rfl | omega) (by first | rfl | (simp; omega) | omega) (by first | rfl | simp | omega) (by first | rfl | simp | omega), rfl⟩
theorem lead3x (b lo hi : Nat) (h1 : 224 ≤ b) (h2 : b < 240) (hl : (if b = 224 then 160 else 128) = lo) (hh : (if b = 237 then 159 else 191) = hi) : U.lead b = some (2, b - 224, lo, hi) := by rw [← hl, ← hh]; exact U.lead3 b h2 h1
theorem lead4x (b lo hi : Nat) (h1 : 240 ≤ b) (h2 : b < 245) (hl : (if b = 240 then 144 else 128) = lo) (hh : (if b = 244 then 143 else 191) = hi) : U.lead b = some (3, b - 240, lo, hi) := by rw [← hl, ← hh]; exact U.lead4 b h2 h1
set_option maxRecDepth 20000 in
set_option maxHeartbeats 4000000 in
theorem beg_224 (b : Nat) (h1 : b = 224) : BegOk b := by
  intro w
  have H := Lib.hid (begT_some (lead3x b 160 191 (by omega) (by omega) (by rw [if_pos h1]) (by rw [if_neg (by omega)])))
  rw [H.out]
  have n0 : ((b : Int) == 224) = true := by rw [beq_iff_eq]; omega
  go_enter Tryd.func89, Tryd.ntmps89
  go_wp2
  (try simp only [Exit.inBlock, Exit.then])
  refine bodyPost_ret (results_tmp4 rfl _ _ _) rfl ?_
  exact ⟨ret_four (by first | rfl | omega) (by first | rfl | (simp; omega) | omega) (by first | rfl | simp | omega) (by first | rfl | simp | omega), rfl⟩
set_option maxRecDepth 20000 in
set_option maxHeartbeats 4000000 in
theorem beg_237 (b : Nat) (h1 : b = 237) : BegOk b := by
  intro w
  have H := Lib.hid (begT_some (lead3x b 128 159 (by omega) (by omega) (by rw [if_neg (by omega)]) (by rw [if_pos h1])))
  rw [H.out]
  have n0 : ((b : Int) == 224) = false := by rw [beq_eq_false_iff_ne]; omega
  have n1 : ((b : Int) == 237) = true := by rw [beq_iff_eq]; omega
  go_enter Tryd.func89, Tryd.ntmps89
  go_wp2
  (try simp only [Exit.inBlock, Exit.then])
  refine bodyPost_ret (results_tmp4 rfl _ _ _) rfl ?_
  exact ⟨ret_four (by first | rfl | omega) (by first | rfl | (simp; omega) | omega) (by first | rfl | simp | omega) (by first | rfl | simp | omega), rfl⟩
set_option maxRecDepth 20000 in
set_option maxHeartbeats 4000000 in
theorem beg_3 (b : Nat) (h1 : 225 ≤ b) (h2 : b < 240) (h3 : b ≠ 237) : BegOk b := by
  intro w
  have H := Lib.hid (begT_some (lead3x b 128 191 (by omega) (by omega) (by rw [if_neg (by omega)]) (by rw [if_neg h3])))
  rw [H.out]
  have n0 : ((b : Int) == 224) = false := by rw [beq_eq_false_iff_ne]; omega
  have n1 : ((b : Int) == 237) = false := by rw [beq_eq_false_iff_ne]; omega
  go_enter Tryd.func89, Tryd.ntmps89
  go_wp2
  (try simp only [Exit.inBlock, Exit.then])
  refine bodyPost_ret (results_tmp4 rfl _ _ _) rfl ?_
  exact ⟨ret_four (by first | rfl | omega) (by first | rfl | (simp; omega) | omega) (by first | rfl | simp | omega) (by first | rfl | simp | omega), rfl⟩
set_option maxRecDepth 20000 in
set_option maxHeartbeats 4000000 in
theorem beg_240 (b : Nat) (h1 : b = 240) : BegOk b := by
  intro w
  have H := Lib.hid (begT_some (lead4x b 144 191 (by omega) (by omega) (by rw [if_pos h1]) (by rw [if_neg (by omega)])))
  rw [H.out]
  have n0 : ((b : Int) == 224) = false := by rw [beq_eq_false_iff_ne]; omega
  have n1 : ((b : Int) == 237) = false := by rw [beq_eq_false_iff_ne]; omega
  have n2 : ((b : Int) == 240) = true := by rw [beq_iff_eq]; omega
  go_enter Tryd.func89, Tryd.ntmps89
  go_wp2
  (try simp only [Exit.inBlock, Exit.then])
  refine bodyPost_ret (results_tmp4 rfl _ _ _) rfl ?_
  exact ⟨ret_four (by first | rfl | omega) (by first | rfl | (simp; omega) | omega) (by first | rfl | simp | omega) (by first | rfl | simp | omega), rfl⟩
set_option maxRecDepth 20000 in
set_option maxHeartbeats 4000000 in
theorem beg_244 (b : Nat) (h1 : b = 244) : BegOk b := by
  intro w
  have H := Lib.hid (begT_some (lead4x b 128 143 (by omega) (by omega) (by rw [if_neg (by omega)]) (by rw [if_pos h1])))
  rw [H.out]
  have n0 : ((b : Int) == 224) = false := by rw [beq_eq_false_iff_ne]; omega
  have n1 : ((b : Int) == 237) = false := by rw [beq_eq_false_iff_ne]; omega
  have n2 : ((b : Int) == 240) = false := by rw [beq_eq_false_iff_ne]; omega
  have n3 : ((b : Int) == 244) = true := by rw [beq_iff_eq]; omega
  go_enter Tryd.func89, Tryd.ntmps89
  go_wp2
  (try simp only [Exit.inBlock, Exit.then])
  refine bodyPost_ret (results_tmp4 rfl _ _ _) rfl ?_
  exact ⟨ret_four (by first | rfl | omega) (by first | rfl | (simp; omega) | omega) (by first | rfl | simp | omega) (by first | rfl | simp | omega), rfl⟩
set_option maxRecDepth 20000 in
set_option maxHeartbeats 4000000 in
theorem beg_4 (b : Nat) (h1 : 241 ≤ b) (h2 : b < 244) : BegOk b := by
  intro w
  have H := Lib.hid (begT_some (lead4x b 128 191 (by omega) (by omega) (by rw [if_neg (by omega)]) (by rw [if_neg (by omega)])))
  rw [H.out]
  have n0 : ((b : Int) == 224) = false := by rw [beq_eq_false_iff_ne]; omega
  have n1 : ((b : Int) == 237) = false := by rw [beq_eq_false_iff_ne]; omega
  have n2 : ((b : Int) == 240) = false := by rw [beq_eq_false_iff_ne]; omega
  have n3 : ((b : Int) == 244) = false := by rw [beq_eq_false_iff_ne]; omega
  go_enter Tryd.func89, Tryd.ntmps89
  go_wp2
  (try simp only [Exit.inBlock, Exit.then])
  refine bodyPost_ret (results_tmp4 rfl _ _ _) rfl ?_
  exact ⟨ret_four (by first | rfl | omega) (by first | rfl | (simp; omega) | omega) (by first | rfl | simp | omega) (by first | rfl | simp | omega), rfl⟩
theorem rbegins_any (b : Nat) (h : 128 ≤ b) : BegOk b := by
  by_cases c1 : b < 194
  · exact beg_low b h c1
  · by_cases c2 : b < 224
    · exact beg_2 b (by omega) c2
    · by_cases c3 : b = 224
      · exact beg_224 b c3
      · by_cases c4 : b = 237
        · exact beg_237 b c4
        · by_cases c5 : b < 240
          · exact beg_3 b (by omega) c5 c4
          · by_cases c6 : b = 240
            · exact beg_240 b c6
            · by_cases c7 : b < 244
              · exact beg_4 b (by omega) c7
              · by_cases c8 : b = 244
                · exact beg_244 b c8
                · exact beg_high b (by omega)
theorem rbegins_none (b : Nat) (h : 128 ≤ b) (hl : U.lead b = none) (w : World) : Calls Tryd.prog 89 #[.int .u8 b] w fun e w' => e = .returned (.tuple #[.int .i64 (-1), .int .i32 0, .int .u8 0, .int .u8 0]) ∧ w = w' := by
  rw [← begT_none hl]; exact rbegins_any b h w
theorem rbegins_some (b l r lo hi : Nat) (h : 128 ≤ b) (hl : U.lead b = some (l, r, lo, hi)) (w : World) : Calls Tryd.prog 89 #[.int .u8 b] w fun e w' => e = .returned (.tuple #[.int .i64 l, .int .i32 r, .int .u8 lo, .int .u8 hi]) ∧ w = w' := by
  rw [← begT_some hl]; exact rbegins_any b h w
end Go.Proofs.YtnjnhgeafbofkaaDoor
