/-
  The walk of bastionlaw01.PctWider: it answers true for every byte, and changes nothing that was there.
-/
import Derived.Test.YtdpmobikelcafaaLive1
namespace Go.Proofs.Ytdpmobikelcafaa
open Go.RowKit M
/-- what a chain of sets gives at the byte b -/
def Chain (S : List Nat) (b : Nat) : Prop :=
  (∀ i, 0 < i → i < S.length → inB (S.getD (i - 1) 0) b = true → inB (S.getD i 0) b = true) ∧
  (∀ i, i < S.length → inB (S.getD i 0) b = true → b < 48 ∨ (57 < b ∧ b < 65) ∨ (90 < b ∧ b < 97) ∨ 122 < b) ∧ ∀ i, i < S.length → S.getD i 0 < 256
theorem chain_mk {S : List Nat} {b : Nat} (ha : ∀ i, i < S.length → ((i == 0) || !(inB (S.getD (i - 1) 0) b) || inB (S.getD i 0) b) = true) (hb : ∀ i, i < S.length → (!(inB (S.getD i 0) b) || decide (b < 48) || decide (57 < b ∧ b < 65) || decide (90 < b ∧ b < 97) || decide (122 < b)) = true) (hc : ∀ i, i < S.length → S.getD i 0 < 256) : Chain S b := by
  refine ⟨fun i h0 h hp => ?_, fun i h hs => ?_, hc⟩
  · have := ha i h
    rw [hp] at this
    have h1 : (i == 0) = false := by rw [beq_eq_false_iff_ne]; omega
    rw [h1] at this
    simpa using this
  · have := hb i h
    rw [hs] at this
    simp only [Bool.not_true, Bool.false_or, Bool.or_eq_true, decide_eq_true_eq] at this
    omega
theorem chain_1a : ∀ b, b < 256 → ∀ i, i < 2 → ((i == 0) || !(inB ([1, 2].getD (i - 1) 0) b) || inB ([1, 2].getD i 0) b) = true := by decide +kernel
theorem chain_1b : ∀ b, b < 256 → ∀ i, i < 2 → (!(inB ([1, 2].getD i 0) b) || decide (b < 48) || decide (57 < b ∧ b < 65) || decide (90 < b ∧ b < 97) || decide (122 < b)) = true := by decide +kernel
theorem chain_1c : ∀ i, i < 2 → [1, 2].getD i 0 < 256 := by decide +kernel
theorem chain1 (b : Nat) (hb : b < 256) : Chain [1, 2] b := chain_mk (chain_1a b hb) (chain_1b b hb) chain_1c
theorem chain_2a : ∀ b, b < 256 → ∀ i, i < 3 → ((i == 0) || !(inB ([1, 3, 4].getD (i - 1) 0) b) || inB ([1, 3, 4].getD i 0) b) = true := by decide +kernel
theorem chain_2b : ∀ b, b < 256 → ∀ i, i < 3 → (!(inB ([1, 3, 4].getD i 0) b) || decide (b < 48) || decide (57 < b ∧ b < 65) || decide (90 < b ∧ b < 97) || decide (122 < b)) = true := by decide +kernel
theorem chain_2c : ∀ i, i < 3 → [1, 3, 4].getD i 0 < 256 := by decide +kernel
theorem chain2 (b : Nat) (hb : b < 256) : Chain [1, 3, 4] b := chain_mk (chain_2a b hb) (chain_2b b hb) chain_2c
theorem chain_3a : ∀ b, b < 256 → ∀ i, i < 5 → ((i == 0) || !(inB ([3, 5, 6, 7, 8].getD (i - 1) 0) b) || inB ([3, 5, 6, 7, 8].getD i 0) b) = true := by decide +kernel
theorem chain_3b : ∀ b, b < 256 → ∀ i, i < 5 → (!(inB ([3, 5, 6, 7, 8].getD i 0) b) || decide (b < 48) || decide (57 < b ∧ b < 65) || decide (90 < b ∧ b < 97) || decide (122 < b)) = true := by decide +kernel
theorem chain_3c : ∀ i, i < 5 → [3, 5, 6, 7, 8].getD i 0 < 256 := by decide +kernel
theorem chain3 (b : Nat) (hb : b < 256) : Chain [3, 5, 6, 7, 8] b := chain_mk (chain_3a b hb) (chain_3b b hb) chain_3c
/-- a row of sets in block g -/
def Sets (w : World) (g : Nat) (S : List Nat) : Prop := ∀ i, i < S.length → w.cell? ⟨g, i, none⟩ = some (.int .u8 (S.getD i 0))
theorem sets_of {w : World} {g t : Nat} {cs : Array Value} {S : List Nat} (h : w.heap[g]? = some (.cells cs t (0, 0))) (hc : cs = (S.map (fun (x : Nat) => Value.int .u8 (x : Int))).toArray) : Sets w g S := fun i hi => by
  rw [cell_of_row _ _ i _ _ _ h, hc]; simp [hi]
set_option maxHeartbeats 8000000 in
theorem PctWider_walk (b0 : Int) (hb0 : (Lit.int .u8 b0).wf = true) (w : World) :
    Calls Try.prog 6 #[.int .u8 b0] w fun e w' => e = .returned (.bool true) ∧ Below w.heap.size w w' := by
  have hx : 0 ≤ b0 ∧ b0 ≤ 255 := by simpa [Lit.wf, IntKind.min, IntKind.max, IntKind.signed, IntKind.bits] using hb0
  obtain ⟨b, rfl⟩ := Int.eq_ofNat_of_zero_le hx.1
  have hb : b < 256 := by omega
  clear hb0 hx
  go_enter Try.func6, Try.ntmps6
  go_wp2_with fail
  refine (lives_any _).mono ?_
  rintro e w1 ⟨rfl, hb1⟩
  go_wp2_with fail
  have hsz1 := hb1.size
  have HB1 := Lib.hid hb1
  clear hb1
  obtain ⟨W, hW⟩ : ∃ W, (((w1.alloc (Obj.cells #[Value.int IntKind.u8 1, Value.int IntKind.u8 2] 22)).alloc (Obj.cells #[Value.int IntKind.u8 1, Value.int IntKind.u8 3, Value.int IntKind.u8 4] 22)).alloc (Obj.cells #[Value.int IntKind.u8 3, Value.int IntKind.u8 5, Value.int IntKind.u8 6, Value.int IntKind.u8 7, Value.int IntKind.u8 8] 22)).alloc (Obj.cells #[Value.slice (some { block := w1.heap.size, off := 0 }) 2 2, Value.slice (some { block := w1.heap.size + 1, off := 0 }) 3 3, Value.slice (some { block := w1.heap.size + 1 + 1, off := 0 }) 5 5] 32) = W := ⟨_, rfl⟩
  rw [hW]
  have hrows : ∀ j, j < 3 → ∃ (S : List Nat) (g : Nat), Sets W g S ∧ Chain S b ∧ S.length < 10 ∧ g < W.heap.size ∧ W.cell? ⟨w1.heap.size + 1 + 1 + 1, j, none⟩ = some (.slice (some ⟨g, 0, none⟩) S.length S.length) := by
    have h3 : W.heap[w1.heap.size + 1 + 1 + 1]? = some (.cells #[Value.slice (some { block := w1.heap.size, off := 0 }) 2 2, Value.slice (some { block := w1.heap.size + 1, off := 0 }) 3 3, Value.slice (some { block := w1.heap.size + 1 + 1, off := 0 }) 5 5] 32 (0, 0)) := by
      rw [← hW]; have := heap_alloc_new (((w1.alloc (Obj.cells #[Value.int IntKind.u8 1, Value.int IntKind.u8 2] 22)).alloc (Obj.cells #[Value.int IntKind.u8 1, Value.int IntKind.u8 3, Value.int IntKind.u8 4] 22)).alloc (Obj.cells #[Value.int IntKind.u8 3, Value.int IntKind.u8 5, Value.int IntKind.u8 6, Value.int IntKind.u8 7, Value.int IntKind.u8 8] 22)) (Obj.cells #[Value.slice (some { block := w1.heap.size, off := 0 }) 2 2, Value.slice (some { block := w1.heap.size + 1, off := 0 }) 3 3, Value.slice (some { block := w1.heap.size + 1 + 1, off := 0 }) 5 5] 32)
      simpa using this
    have h2 : W.heap[w1.heap.size + 1 + 1]? = some (.cells #[Value.int IntKind.u8 3, Value.int IntKind.u8 5, Value.int IntKind.u8 6, Value.int IntKind.u8 7, Value.int IntKind.u8 8] 22 (0, 0)) := by
      rw [← hW, Below.heap_alloc _ _ _ (by simp)]
      have := heap_alloc_new ((w1.alloc (Obj.cells #[Value.int IntKind.u8 1, Value.int IntKind.u8 2] 22)).alloc (Obj.cells #[Value.int IntKind.u8 1, Value.int IntKind.u8 3, Value.int IntKind.u8 4] 22)) (Obj.cells #[Value.int IntKind.u8 3, Value.int IntKind.u8 5, Value.int IntKind.u8 6, Value.int IntKind.u8 7, Value.int IntKind.u8 8] 22)
      simpa using this
    have h1 : W.heap[w1.heap.size + 1]? = some (.cells #[Value.int IntKind.u8 1, Value.int IntKind.u8 3, Value.int IntKind.u8 4] 22 (0, 0)) := by
      rw [← hW, Below.heap_alloc _ _ _ (by first | (simp; done) | (simp; omega)), Below.heap_alloc _ _ _ (by simp)]
      have := heap_alloc_new (w1.alloc (Obj.cells #[Value.int IntKind.u8 1, Value.int IntKind.u8 2] 22)) (Obj.cells #[Value.int IntKind.u8 1, Value.int IntKind.u8 3, Value.int IntKind.u8 4] 22)
      simpa using this
    have h0 : W.heap[w1.heap.size]? = some (.cells #[Value.int IntKind.u8 1, Value.int IntKind.u8 2] 22 (0, 0)) := by
      rw [← hW, Below.heap_alloc _ _ _ (by first | (simp; done) | (simp; omega)), Below.heap_alloc _ _ _ (by first | (simp; done) | (simp; omega)), Below.heap_alloc _ _ _ (by simp)]
      exact heap_alloc_new w1 _
    intro j hj
    have h4 : j = 0 ∨ j = 1 ∨ j = 2 := by omega
    rcases h4 with rfl | rfl | rfl
    · exact ⟨[1, 2], _, sets_of h0 rfl, chain1 b hb, by decide, lt_of_block h0, cell_of_row _ _ 0 _ _ _ h3⟩
    · exact ⟨[1, 3, 4], _, sets_of h1 rfl, chain2 b hb, by decide, lt_of_block h1, cell_of_row _ _ 1 _ _ _ h3⟩
    · exact ⟨[3, 5, 6, 7, 8], _, sets_of h2 rfl, chain3 b hb, by decide, lt_of_block h2, cell_of_row _ _ 2 _ _ _ h3⟩
  have hWs : w1.heap.size + 4 = W.heap.size := by rw [← hW]; simp
  have hbW : Below w.heap.size w W := by
    rw [← hW]
    exact (((HB1.out.alloc (by omega) _).alloc (by simp; omega) _).alloc (by simp; omega) _).alloc (by simp; omega) _
  have HR := Lib.hid hrows
  have hW1 : w1.heap.size + 4 ≤ W.heap.size := by omega
  have hW2 : w.heap.size ≤ W.heap.size := by omega
  clear hW hrows hWs
  go_loopw [15] (fun i wr => ∃ j : Nat, j ≤ 3 ∧ i = .int .i64 j ∧ Below w.heap.size w wr ∧ Below W.heap.size W wr) (fun i _ => 3 - (intOf i).toNat)
  case atStart => exact ⟨0, by omega, rfl, hbW, Below.refl _ _⟩
  case round =>
    clear hbW
    obtain ⟨j, hj, rfl, hbw, hbW⟩ := hrel
    by_cases hj3 : j < 3
    · obtain ⟨S, g, hS, hC, hn, hg, hc⟩ := HR.out j hj3
      have hcj : wr.cell? ⟨w1.heap.size + 1 + 1 + 1, j, none⟩ = some (.slice (some ⟨g, 0, none⟩) S.length S.length) := (hbW.cell (p := ⟨w1.heap.size + 1 + 1 + 1, j, none⟩) (show w1.heap.size + 1 + 1 + 1 < W.heap.size by omega)).trans hc
      have HJ := Lib.hid (show decide ((j : Int) < 3) = true from decide_eq_true (by omega))
      have HS := Lib.hid hS
      have HC := Lib.hid hC
      clear hc hS hC
      go_wp2
      obtain ⟨wo, rfl⟩ : ∃ wo : World, wo = wr := ⟨_, rfl⟩
      go_loopw [21] (fun i wr => ∃ k : Nat, k ≤ S.length ∧ i = .int .i64 k ∧ Below w.heap.size w wr ∧ Below W.heap.size W wr) (fun i _ => S.length - (intOf i).toNat)
      case atStart => exact ⟨0, by omega, rfl, hbw, hbW⟩
      case round =>
        clear hbw hbW hcj
        obtain ⟨k, hk, rfl, hbw, hbW⟩ := hrel
        by_cases hlt : k < S.length
        · have hck : wr.cell? ⟨g, k, none⟩ = some (.int .u8 (S.getD k 0)) := (hbW.cell (p := ⟨g, k, none⟩) hg).trans (HS.out k hlt)
          have hsk := HC.out.2.2 k hlt
          have HA := Lib.hid (HC.out.1 k)
          have HB := Lib.hid (HC.out.2.1 k hlt)
          have q0 := hbw.size
          have q1 := hbW.size
          by_cases hk0 : k = 0
          · have hkn : ¬ 0 < k := by omega
            clear hk0
            generalize S.getD k 0 = sk at *
            by_cases hin : inB sk b = true
            · have ho := HB.out hin
              rcases ho with ho | ⟨ho, ho'⟩ | ⟨ho, ho'⟩ | ho
              all_goals
                go_wp2_with fail
                refine (in_any sk b (by assumption) hb _).mono ?_
                rintro e w2 ⟨rfl, hb2⟩
                have q2 := hb2.size
                have hck2 : w2.cell? ⟨g, k, none⟩ = some (.int .u8 sk) := (hb2.cell (p := ⟨g, k, none⟩) (show g < wr.heap.size by omega)).trans hck
                go_wp2
                refine ⟨?_, by simp [intOf]; omega⟩
                (repeat apply Exists.intro)
                refine ⟨⟨k + 1, by omega, ?num, (hbw).trans (hb2.mono (by omega)), (hbW).trans (hb2.mono (by omega))⟩, ?eqs⟩
                case eqs => first | ((repeat' (first | apply And.intro | rfl)); done) | (rw [HJ.out]; done) | (rw [HJ.out]; rfl)
                case num => go_num
            · have hin2 : inB sk b = false := by simpa using hin
              clear hin
              go_wp2_with fail
              refine (in_any sk b (by assumption) hb _).mono ?_
              rintro e w2 ⟨rfl, hb2⟩
              have q2 := hb2.size
              have hck2 : w2.cell? ⟨g, k, none⟩ = some (.int .u8 sk) := (hb2.cell (p := ⟨g, k, none⟩) (show g < wr.heap.size by omega)).trans hck
              go_wp2
              refine ⟨?_, by simp [intOf]; omega⟩
              (repeat apply Exists.intro)
              refine ⟨⟨k + 1, by omega, ?num, (hbw).trans (hb2.mono (by omega)), (hbW).trans (hb2.mono (by omega))⟩, ?eqs⟩
              case eqs => first | ((repeat' (first | apply And.intro | rfl)); done) | (rw [HJ.out]; done) | (rw [HJ.out]; rfl)
              case num => go_num
          · have hkp : 0 < k := by omega
            clear hk0
            have hcp : wr.cell? ⟨g, k - 1, none⟩ = some (.int .u8 (S.getD (k - 1) 0)) := (hbW.cell (p := ⟨g, k - 1, none⟩) hg).trans (HS.out (k - 1) (by omega))
            have hsp := HC.out.2.2 (k - 1) (by omega)
            have HA2 := Lib.hid (HA.out hkp hlt)
            clear HA
            generalize S.getD (k - 1) 0 = sp at *
            generalize S.getD k 0 = sk at *
            by_cases hp : inB sp b = true
            · have hin := HA2.out hp
              have ho := HB.out hin
              rcases ho with ho | ⟨ho, ho'⟩ | ⟨ho, ho'⟩ | ho
              all_goals
                go_wp2_with fail
                refine (in_any sp b (by assumption) hb _).mono ?_
                rintro e w2 ⟨rfl, hb2⟩
                have q2 := hb2.size
                have hck2 : w2.cell? ⟨g, k, none⟩ = some (.int .u8 sk) := (hb2.cell (p := ⟨g, k, none⟩) (show g < wr.heap.size by omega)).trans hck
                go_wp2_with fail
                refine (in_any sk b (by assumption) hb _).mono ?_
                rintro e w3 ⟨rfl, hb3⟩
                have q3 := hb3.size
                have hck3 : w3.cell? ⟨g, k, none⟩ = some (.int .u8 sk) := (hb3.cell (p := ⟨g, k, none⟩) (show g < w2.heap.size by omega)).trans hck2
                go_wp2_with fail
                refine (in_any sk b (by assumption) hb _).mono ?_
                rintro e w4 ⟨rfl, hb4⟩
                have q4 := hb4.size
                have hck4 : w4.cell? ⟨g, k, none⟩ = some (.int .u8 sk) := (hb4.cell (p := ⟨g, k, none⟩) (show g < w3.heap.size by omega)).trans hck3
                go_wp2
                refine ⟨?_, by simp [intOf]; omega⟩
                (repeat apply Exists.intro)
                refine ⟨⟨k + 1, by omega, ?num, (((hbw).trans (hb2.mono (by omega))).trans (hb3.mono (by omega))).trans (hb4.mono (by omega)), (((hbW).trans (hb2.mono (by omega))).trans (hb3.mono (by omega))).trans (hb4.mono (by omega))⟩, ?eqs⟩
                case eqs => first | ((repeat' (first | apply And.intro | rfl)); done) | (rw [HJ.out]; done) | (rw [HJ.out]; rfl)
                case num => go_num
            · have hp2 : inB sp b = false := by simpa using hp
              clear hp
              by_cases hin : inB sk b = true
              · have ho := HB.out hin
                rcases ho with ho | ⟨ho, ho'⟩ | ⟨ho, ho'⟩ | ho
                all_goals
                  go_wp2_with fail
                  refine (in_any sp b (by assumption) hb _).mono ?_
                  rintro e w2 ⟨rfl, hb2⟩
                  have q2 := hb2.size
                  have hck2 : w2.cell? ⟨g, k, none⟩ = some (.int .u8 sk) := (hb2.cell (p := ⟨g, k, none⟩) (show g < wr.heap.size by omega)).trans hck
                  go_wp2_with fail
                  refine (in_any sk b (by assumption) hb _).mono ?_
                  rintro e w3 ⟨rfl, hb3⟩
                  have q3 := hb3.size
                  have hck3 : w3.cell? ⟨g, k, none⟩ = some (.int .u8 sk) := (hb3.cell (p := ⟨g, k, none⟩) (show g < w2.heap.size by omega)).trans hck2
                  go_wp2
                  refine ⟨?_, by simp [intOf]; omega⟩
                  (repeat apply Exists.intro)
                  refine ⟨⟨k + 1, by omega, ?num, ((hbw).trans (hb2.mono (by omega))).trans (hb3.mono (by omega)), ((hbW).trans (hb2.mono (by omega))).trans (hb3.mono (by omega))⟩, ?eqs⟩
                  case eqs => first | ((repeat' (first | apply And.intro | rfl)); done) | (rw [HJ.out]; done) | (rw [HJ.out]; rfl)
                  case num => go_num
              · have hin2 : inB sk b = false := by simpa using hin
                clear hin
                go_wp2_with fail
                refine (in_any sp b (by assumption) hb _).mono ?_
                rintro e w2 ⟨rfl, hb2⟩
                have q2 := hb2.size
                have hck2 : w2.cell? ⟨g, k, none⟩ = some (.int .u8 sk) := (hb2.cell (p := ⟨g, k, none⟩) (show g < wr.heap.size by omega)).trans hck
                go_wp2_with fail
                refine (in_any sk b (by assumption) hb _).mono ?_
                rintro e w3 ⟨rfl, hb3⟩
                have q3 := hb3.size
                have hck3 : w3.cell? ⟨g, k, none⟩ = some (.int .u8 sk) := (hb3.cell (p := ⟨g, k, none⟩) (show g < w2.heap.size by omega)).trans hck2
                go_wp2
                refine ⟨?_, by simp [intOf]; omega⟩
                (repeat apply Exists.intro)
                refine ⟨⟨k + 1, by omega, ?num, ((hbw).trans (hb2.mono (by omega))).trans (hb3.mono (by omega)), ((hbW).trans (hb2.mono (by omega))).trans (hb3.mono (by omega))⟩, ?eqs⟩
                case eqs => first | ((repeat' (first | apply And.intro | rfl)); done) | (rw [HJ.out]; done) | (rw [HJ.out]; rfl)
                case num => go_num
        · go_wp2
          go_roundw
          case rel => exact ⟨j + 1, by omega, by go_num, hbw, hbW⟩
          case measure => simp [intOf]; omega
    · go_wp2
      go_ret
      exact ⟨rfl, hbw⟩
end Go.Proofs.Ytdpmobikelcafaa
