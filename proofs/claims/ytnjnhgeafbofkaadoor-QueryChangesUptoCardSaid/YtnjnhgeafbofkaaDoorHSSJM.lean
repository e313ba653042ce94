import Derived.Test.YtnjnhgeafbofkaaDoorHSSHM
import Derived.Test.YtnjnhgeafbofkaaDoorHSSIM
import Derived.OwnWalk
namespace Go.Proofs.YtnjnhgeafbofkaaDoor
open Go.RowKit
theorem sym_all {W0 : World} : ∀ N, SymUpTo W0 N
  | 0 => fun g rest len cap pre L R post w B hN hB hR hlen hmax hSL hSR hL hRl a m b ha hm hb => by omega
  | N + 1 => fun g rest len cap pre L R post w B hN hB hR hlen hmax hSL hSR hL hRl a m b ha hm hb => by
    subst ha hm hb
    by_cases h1 : L.length = 1
    · obtain ⟨x, rfl⟩ := List.length_eq_one_iff.1 h1
      exact sym_first g rest len cap pre x R post w B hB hR hlen hmax hSR _ _ _ rfl rfl rfl
    · by_cases h2 : R.length = 1
      · obtain ⟨y, rfl⟩ := List.length_eq_one_iff.1 h2
        exact sym_last g rest len cap pre L y post w B hB hR hlen hmax hSL h1 _ _ _ rfl rfl rfl
      · by_cases h3 : (pre.length + (pre.length + L.length + R.length)) / 2 < pre.length + L.length
        · exact sym_big N (sym_all N) g rest len cap pre L R post w B hN hB hR hlen hmax hSL hSR (by omega) (by omega) _ _ _ _ _ _ rfl rfl rfl rfl rfl rfl h3
        · exact sym_small N (sym_all N) g rest len cap pre L R post w B hN hB hR hlen hmax hSL hSR (by omega) (by omega) _ _ _ _ _ _ rfl rfl rfl rfl rfl rfl (by omega)
theorem insertionZ {W0 : World} (g : Nat) (rest : List Value) (len cap : Nat) (pre L post : List (Pl W0 g)) (w : World) (B : Nat) (hB : B ≤ g) (hR : Row w g rest (pre ++ (L ++ post))) (hlen : (pre ++ (L ++ post)).length = len) (hmax : len ≤ 35184372088320) (a b : Int) (ha : a = pre.length) (hb : b = (pre.length + L.length : Nat)) :
    Calls Tryd.prog 80 #[.slice (some ⟨g, 0, none⟩) len cap, .int .i64 a, .int .i64 b, CMP] w fun e w' => e = .returned (.tuple #[]) ∧ Row w' g rest (pre ++ (SM.S ltP L ++ post)) ∧ Below B w w' := by
  subst ha hb
  exact insertion g rest len cap pre L post w B hB hR hlen hmax _ _ rfl rfl
theorem SB_step {W0 : World} {g : Nat} {s : Nat} {D0 Pp Dr D1 D2 : List (Pl W0 g)} (e : Dr = D1 ++ D2) (hl : D1.length = s) (h : ∀ E', SM.SB ltP s Dr E' → SM.SB ltP s D0 (Pp ++ E')) : ∀ E', SM.SB ltP s D2 E' → SM.SB ltP s D0 ((Pp ++ SM.S ltP D1) ++ E') := by
  intro E' hE
  rw [List.append_assoc]
  exact h _ (by rw [e]; exact .more D1 D2 E' hl hE)
set_option maxRecDepth 100000 in
set_option maxHeartbeats 16000000 in
theorem stable {W0 : World} (g : Nat) (rest : List Value) (len cap : Nat) (D0 : List (Pl W0 g)) (w : World) (B : Nat) (hB : B ≤ g) (hR : Row w g rest D0) (hlen : D0.length = len) (hmax : len ≤ 35184372088320) :
    Calls Tryd.prog 60 #[.slice (some ⟨g, 0, none⟩) len cap, .int .i64 len, CMP] w fun e w' => e = .returned (.tuple #[]) ∧ Row w' g rest (SM.S ltP D0) ∧ Below B w w' := by
  have HL := Lib.hid hlen
  have HR0 := Lib.hid hR
  clear hR hlen
  unfold CMP
  go_enter Tryd.func60, Tryd.ntmps60
  go_wp2
  go_loopw [7, 8] (fun av bv wr => ∃ (a b : Nat) (Dp Dr Pp : List (Pl W0 g)), av = .int .i64 a ∧ bv = .int .i64 b ∧ a ≤ len ∧ b ≤ a + 20 ∧ a + 20 ≤ b ∧ Hid (D0 = Dp ++ Dr ∧ Dp.length = a ∧ Pp.length = a ∧ (Pp ++ Dr).length = len ∧ ∀ E', SM.SB ltP 20 Dr E' → SM.SB ltP 20 D0 (Pp ++ E')) ∧ Row wr g rest (Pp ++ Dr) ∧ Below B w wr) (fun a _ _ => len - (intOf a).toNat)
  case atStart => exact ⟨0, 20, [], D0, [], rfl, rfl, Nat.zero_le _, by omega, by omega, Lib.hid ⟨rfl, rfl, rfl, by simpa using HL.out, fun E' h => by simpa using h⟩, by simpa using HR0.out, Below.refl _ _⟩
  case round =>
    obtain ⟨a, b, Dp, Dr, Pp, rfl, rfl, hal, hb1, hb2, HI, hRow, hBel⟩ := hrel
    have HRow := Lib.hid hRow
    have HBel := Lib.hid hBel
    clear hRow hBel
    by_cases hbl : b ≤ len
    · have hblz : (b : Int) ≤ (len : Int) := by omega
      go_wp2_with fail
      obtain ⟨h1, h2, h3, h4, h5⟩ := HI.out
      have hDr : Pp.length + Dr.length = len := by rw [← List.length_append]; exact h4
      obtain ⟨D1, D2, rfl, hl1⟩ : ∃ D1 D2, Dr = D1 ++ D2 ∧ D1.length = 20 := ⟨Dr.take 20, Dr.drop 20, by simp, by rw [List.length_take]; omega⟩
      refine (insertionZ g rest len cap Pp D1 D2 _ B hB HRow.out h4 hmax _ _ (by omega) (by omega)).mono ?_
      rintro er w1 ⟨rfl, hR1, hB1⟩
      have hst := SB_step rfl hl1 h5
      have HF : Hid (D0 = (Dp ++ D1) ++ D2 ∧ (Dp ++ D1).length = b ∧ (Pp ++ SM.S ltP D1).length = b ∧ ((Pp ++ SM.S ltP D1) ++ D2).length = len ∧ ∀ E', SM.SB ltP 20 D2 E' → SM.SB ltP 20 D0 ((Pp ++ SM.S ltP D1) ++ E')) := Lib.hid ⟨by rw [h1]; simp, by rw [List.length_append]; omega, by rw [List.length_append, SM.S_length]; omega, by simp only [List.length_append, SM.S_length] at h4 ⊢; omega, hst⟩
      have HR1 : Hid (Row w1 g rest ((Pp ++ SM.S ltP D1) ++ D2)) := Lib.hid (by simpa using hR1)
      have HB1 := Lib.hid (HBel.out.trans hB1)
      clear h1 h2 h3 h4 h5 hDr hl1 hR1 hB1 hst
      go_wp2
      go_roundw
      case rel => exact ⟨b, b + 20, Dp ++ D1, D2, Pp ++ SM.S ltP D1, rfl, by go_num, hbl, by omega, by omega, HF, HR1.out, HB1.out⟩
      case measure => simp [intOf]; omega
    · have hblz : ¬ (b : Int) ≤ (len : Int) := by omega
      go_wp2_with fail
      obtain ⟨h1, h2, h3, h4, h5⟩ := HI.out
      have hDr : Pp.length + Dr.length = len := by rw [← List.length_append]; exact h4
      refine (insertionZ g rest len cap Pp Dr [] _ B hB (by simpa using HRow.out) (by simpa using h4) hmax _ _ (by omega) (by omega)).mono ?_
      rintro er w1 ⟨rfl, hR1, hB1⟩
      have HSB : Hid (SM.SB ltP 20 D0 (Pp ++ SM.S ltP Dr)) := Lib.hid (h5 _ (.last Dr (by omega)))
      have HR1 : Hid (Row w1 g rest (Pp ++ SM.S ltP Dr)) := Lib.hid (by simpa using hR1)
      have HB1 := Lib.hid (HBel.out.trans hB1)
      generalize Pp ++ SM.S ltP Dr = E1 at HSB HR1
      clear h1 h2 h3 h4 h5 hDr hR1 hB1 HRow HBel HI hblz hbl hal hb1 hb2
      go_wp2
      obtain ⟨wo, rfl⟩ : ∃ wo : World, wo = wr := ⟨_, rfl⟩
      go_loopw [6, 7, 8, 9] (fun sv _ _ _ wr => ∃ (s : Nat) (E : List (Pl W0 g)), sv = .int .i64 s ∧ 1 ≤ s ∧ s ≤ 2 * len + 20 ∧ Hid (SM.SB ltP s D0 E) ∧ Row wr g rest E ∧ Below B w wr) (fun sv _ _ _ _ => 2 * len + 20 - (intOf sv).toNat)
      case atStart => exact ⟨20, E1, rfl, by omega, by omega, HSB, HR1.out, HB1.out⟩
      case round =>
        obtain ⟨s, E, rfl, hs1, hs2, HE, hRow, hBel⟩ := hrel
        have HRow := Lib.hid hRow
        have HBel := Lib.hid hBel
        clear hRow hBel HSB HR1 HB1
        by_cases hsl : s < len
        · have hslz : (s : Int) < (len : Int) := by omega
          have ws2 : IntKind.i64.wrap (2 * (s : Int)) = 2 * (s : Int) := IntWalk.i64_in _ (by omega)
          have ws3 : IntKind.i64.wrap ((s : Int) * 2) = (s : Int) * 2 := IntWalk.i64_in _ (by omega)
          go_wp2_with fail
          obtain ⟨wi, rfl⟩ : ∃ wi : World, wi = wr := ⟨_, rfl⟩
          go_loopw [7, 8] (fun av bv wr => ∃ (a b : Nat) (Dp Dr Pp Er : List (Pl W0 g)), av = .int .i64 a ∧ bv = .int .i64 b ∧ a ≤ len ∧ b ≤ a + 2 * s ∧ a + 2 * s ≤ b ∧ Hid (D0 = Dp ++ Dr ∧ Dp.length = a ∧ Pp.length = a ∧ a + Dr.length = len ∧ Er.length = Dr.length ∧ SM.SB ltP s Dr Er ∧ ∀ E', SM.SB ltP (2 * s) Dr E' → SM.SB ltP (2 * s) D0 (Pp ++ E')) ∧ Row wr g rest (Pp ++ Er) ∧ Below B w wr) (fun a _ _ => len - (intOf a).toNat)
          case atStart => exact ⟨0, 2 * s, [], D0, [], E, rfl, by go_num, Nat.zero_le _, by omega, by omega, Lib.hid ⟨rfl, rfl, rfl, by rw [Nat.zero_add]; exact HL.out, HE.out.length, HE.out, fun E' h => by simpa using h⟩, by simpa using HRow.out, HBel.out⟩
          case round =>
            obtain ⟨a, b, Dp, Dr, Pp, Er, rfl, rfl, hal, hb1, hb2, HI, hRow, hBel⟩ := hrel
            have HRow2 := Lib.hid hRow
            have HBel2 := Lib.hid hBel
            have wbs : IntKind.i64.wrap ((b : Int) + 2 * (s : Int)) = (b : Int) + 2 * (s : Int) := IntWalk.i64_in _ (by omega)
            have was : IntKind.i64.wrap ((a : Int) + (s : Int)) = (a : Int) + (s : Int) := IntWalk.i64_in _ (by omega)
            clear hRow hBel
            by_cases hbl : b ≤ len
            · have hblz : (b : Int) ≤ (len : Int) := by omega
              go_wp2_with fail
              obtain ⟨h1, h2, h3, h4, h5, h6, h7⟩ := HI.out
              obtain ⟨D1, Dx, Ex, rfl, hl1, rfl, hx⟩ := h6.first (by omega)
              obtain ⟨D2, D3, E3, rfl, hl2, rfl, h8⟩ := hx.first (by simp only [List.length_append] at h4; omega)
              have hs1 := SM.S_length ltP D1
              have hs2 := SM.S_length ltP D2
              simp only [List.length_append] at h4 h5
              refine (sym_all _ g rest len cap Pp (SM.S ltP D1) (SM.S ltP D2) E3 _ B (Nat.le_refl _) hB (by simpa using HRow2.out) (by simp only [List.length_append]; omega) hmax (SM.S_srt ltP_ord _) (SM.S_srt ltP_ord _) (by omega) (by omega) _ _ _ (by omega) (by omega) (by omega)).mono ?_
              rintro er w1 ⟨rfl, hR1, hB1⟩
              have HF : Hid (D0 = (Dp ++ (D1 ++ D2)) ++ D3 ∧ (Dp ++ (D1 ++ D2)).length = b ∧ (Pp ++ SM.S ltP (D1 ++ D2)).length = b ∧ b + D3.length = len ∧ E3.length = D3.length ∧ SM.SB ltP s D3 E3 ∧ ∀ E', SM.SB ltP (2 * s) D3 E' → SM.SB ltP (2 * s) D0 ((Pp ++ SM.S ltP (D1 ++ D2)) ++ E')) := Lib.hid ⟨by rw [h1]; simp, by simp only [List.length_append]; omega, by simp only [List.length_append, SM.S_length]; omega, by omega, h8.length, h8, SB_step (s := 2 * s) (Dr := D1 ++ (D2 ++ D3)) (by simp) (by simp only [List.length_append]; omega) h7⟩
              have HR1 : Hid (Row w1 g rest ((Pp ++ SM.S ltP (D1 ++ D2)) ++ E3)) := Lib.hid (by rw [SM.S_app ltP_ord]; simpa using hR1)
              have HB1 := Lib.hid (HBel2.out.trans hB1)
              clear h1 h2 h3 h4 h5 h6 h7 h8 hx hl1 hl2 hs1 hs2 hR1 hB1
              go_wp2
              go_roundw
              case rel => exact ⟨b, b + 2 * s, Dp ++ (D1 ++ D2), D3, Pp ++ SM.S ltP (D1 ++ D2), E3, rfl, by go_num, hbl, by omega, by omega, HF, HR1.out, HB1.out⟩
              case measure => simp [intOf]; omega
            · have hblz : ¬ (b : Int) ≤ (len : Int) := by omega
              by_cases hml : a + s < len
              · have hmlz : (a : Int) + (s : Int) < (len : Int) := by omega
                go_wp2_with fail
                obtain ⟨h1, h2, h3, h4, h5, h6, h7⟩ := HI.out
                obtain ⟨D1, D2, E2, rfl, hl1, rfl, h8⟩ := h6.front (by omega)
                simp only [List.length_append] at h4 h5
                have h9 := h8.whole (by omega)
                subst h9
                have hs1 := SM.S_length ltP D1
                have hs2 := SM.S_length ltP D2
                refine (sym_all _ g rest len cap Pp (SM.S ltP D1) (SM.S ltP D2) [] _ B (Nat.le_refl _) hB (by simpa using HRow2.out) (by simp only [List.length_append, List.length_nil]; omega) hmax (SM.S_srt ltP_ord _) (SM.S_srt ltP_ord _) (by omega) (by omega) _ _ _ (by omega) (by omega) (by omega)).mono ?_
                rintro er w1 ⟨rfl, hR1, hB1⟩
                have HF : Hid (SM.SB ltP (s * 2) D0 (Pp ++ SM.S ltP (D1 ++ D2))) := Lib.hid (by rw [Nat.mul_comm]; exact h7 _ (.last _ (by simp only [List.length_append]; omega)))
                have HR1 : Hid (Row w1 g rest (Pp ++ SM.S ltP (D1 ++ D2))) := Lib.hid (by rw [SM.S_app ltP_ord]; simpa using hR1)
                have HB1 := Lib.hid (HBel2.out.trans hB1)
                clear h1 h2 h3 h4 h5 h6 h7 h8 hl1 hs1 hs2 hR1 hB1
                go_wp2
                go_roundw
                case rel => exact ⟨s * 2, Pp ++ SM.S ltP (D1 ++ D2), by go_num, by omega, by omega, HF, HR1.out, HB1.out⟩
                case measure => simp [intOf]; omega
              · have hmlz : ¬ (a : Int) + (s : Int) < (len : Int) := by omega
                have HF : Hid (SM.SB ltP (s * 2) D0 (Pp ++ Er)) := Lib.hid (by
                  obtain ⟨h1, h2, h3, h4, h5, h6, h7⟩ := HI.out
                  rw [Nat.mul_comm, h6.whole (by omega)]
                  exact h7 _ (.last _ (by omega)))
                go_wp2
                go_roundw
                case rel => exact ⟨s * 2, Pp ++ Er, by go_num, by omega, by omega, HF, HRow2.out, HBel2.out⟩
                case measure => simp [intOf]; omega
        · have hslz : ¬ (s : Int) < (len : Int) := by omega
          have HF : Hid (E = SM.S ltP D0) := Lib.hid (HE.out.whole (by have := HL.out; omega))
          go_wp2
          go_end0
          exact ⟨rfl, by rw [← HF.out]; exact HRow.out, HBel.out⟩
end Go.Proofs.YtnjnhgeafbofkaaDoor
namespace Go.Proofs.YtnjnhgeafbofkaaDoor
open Go.RowKit
set_option maxHeartbeats 1000000 in
theorem sortStable {W0 : World} (g : Nat) (rest : List Value) (len cap : Nat) (D0 : List (Pl W0 g)) (w : World) (B : Nat) (hB : B ≤ g) (hR : Row w g rest D0) (hlen : D0.length = len) (hmax : len ≤ 35184372088320) :
    Calls Tryd.prog 39 #[.slice (some ⟨g, 0, none⟩) len cap, CMP] w fun e w' => e = .returned (.tuple #[]) ∧ Row w' g rest (SM.S ltP D0) ∧ Below B w w' := by
  have hl : len ≤ maxLen := by unfold maxLen; omega
  go_enter Tryd.func39, Tryd.ntmps39
  go_wp2_with fail
  refine (stable g rest len cap D0 _ B hB hR hlen hmax).mono ?_
  rintro e w' ⟨rfl, h1, h2⟩
  have H1 := Lib.hid h1
  have H2 := Lib.hid h2
  clear h1 h2 hR hlen
  go_wp2
  go_end0
  exact ⟨rfl, H1.out, H2.out⟩
end Go.Proofs.YtnjnhgeafbofkaaDoor
/-
  Rows of query.Sort before they are sorted: cell by cell, in whatever world; the mathematics of a stable sort behind a map.
-/
namespace Go.Proofs.YtnjnhgeafbofkaaDoor
open Go.RowKit
structure Rw where
  x : Fd
  q : Option Addr
  m : Nat
  c : Nat
  l : List Int
def zRw : Rw := ⟨(⟨#[]⟩, ⟨#[]⟩), none, 0, 0, []⟩
def encRw (r : Rw) : List Value := [.string r.x.1, .string r.x.2, .slice r.q r.m r.c]
def encRs (D : List Rw) : List Value := D.flatMap encRw
theorem encRs_cons (x : Rw) (D : List Rw) : encRs (x :: D) = encRw x ++ encRs D := by unfold encRs; rw [List.flatMap_cons]
theorem encRs_len : ∀ D : List Rw, (encRs D).length = D.length * 3
  | [] => rfl
  | x :: D => by rw [encRs_cons, List.length_append, encRs_len D]; simp [encRw]; omega
theorem encRs_at : ∀ (D : List Rw) (rest : List Value) (i j : Nat) (x : Rw), D[i]? = some x → j < 3 → (encRs D ++ rest)[i * 3 + j]? = (encRw x)[j]?
  | [], _, i, _, _, h, _ => by simp at h
  | y :: D, rest, 0, j, x, h, hj => by
    simp at h; subst h
    rw [encRs_cons, List.append_assoc, Nat.zero_mul, Nat.zero_add, List.getElem?_append_left (by simp [encRw]; omega)]
  | y :: D, rest, i + 1, j, x, h, hj => by
    rw [encRs_cons, List.append_assoc, List.getElem?_append_right (by simp [encRw]; omega)]
    have := encRs_at D rest i j x (by simpa using h) hj
    rw [← this]
    congr 1
    simp [encRw]; omega
theorem encRs_set : ∀ (D : List Rw) (rest : List Value) (i : Nat) (x : Rw), i < D.length → (((encRs D ++ rest).set (i * 3) (.string x.x.1)).set (i * 3 + 1) (.string x.x.2)).set (i * 3 + 2) (.slice x.q x.m x.c) = encRs (D.set i x) ++ rest
  | [], _, i, _, h => by simp at h
  | y :: D, rest, 0, x, _ => by simp [encRs_cons, encRw]
  | y :: D, rest, i + 1, x, h => by
    have := encRs_set D rest i x (by simpa using h)
    rw [List.set_cons_succ, encRs_cons, encRs_cons]
    have e : (i + 1) * 3 = i * 3 + 3 := by omega
    rw [e]
    simp only [encRw, List.cons_append, List.nil_append, List.set_cons_succ]
    rw [← this]
def RowR (w : World) (g : Nat) (rest : List Value) (D : List Rw) : Prop := Has w g (.cells (encRs D ++ rest).toArray 67)
section
variable {w w' : World} {g : Nat} {rest : List Value} {D : List Rw}
theorem RowR.c0 (h : RowR w g rest D) {i : Nat} {x : Rw} (hx : D[i]? = some x) : w.cell? ⟨g, i * 3, none⟩ = some (.string x.x.1) := Has.cell h _ (by rw [List.getElem?_toArray]; exact encRs_at D rest i 0 x hx (by omega))
theorem RowR.c1 (h : RowR w g rest D) {i : Nat} {x : Rw} (hx : D[i]? = some x) : w.cell? ⟨g, i * 3 + 1, none⟩ = some (.string x.x.2) := Has.cell h _ (by rw [List.getElem?_toArray]; exact encRs_at D rest i 1 x hx (by omega))
theorem RowR.c2 (h : RowR w g rest D) {i : Nat} {x : Rw} (hx : D[i]? = some x) : w.cell? ⟨g, i * 3 + 2, none⟩ = some (.slice x.q x.m x.c) := Has.cell h _ (by rw [List.getElem?_toArray]; exact encRs_at D rest i 2 x hx (by omega))
theorem RowR.f (h : RowR w g rest D) (i : Nat) : w.frozen? ⟨g, i, none⟩ = false := Has.free h i
theorem RowR.store (h : RowR w g rest D) {i : Nat} (hi : i < D.length) (x : Rw) : RowR (((w.setCell ⟨g, i * 3, none⟩ (.string x.x.1)).setCell ⟨g, i * 3 + 1, none⟩ (.string x.x.2)).setCell ⟨g, i * 3 + 2, none⟩ (.slice x.q x.m x.c)) g rest (D.set i x) := by
  have := ((Has.set h (i * 3) (.string x.x.1)).set (i * 3 + 1) (.string x.x.2)).set (i * 3 + 2) (.slice x.q x.m x.c)
  unfold RowR
  rw [← encRs_set D rest i x hi]
  simpa using this
theorem RowR.to (h : RowR w g rest D) (hb : Below w.heap.size w w') : RowR w' g rest D := Has.to h hb
end
/-- a pair's units -/
def keyU (x : Fd) : List Int := unL (U.runesZ x.1.data.toList)
def RwOk (w : World) (g : Nat) (x : Fd) (r : Rw) : Prop :=
  r.x = x ∧ r.l = keyU x ∧ r.m = r.l.length ∧ r.l.length ≤ 140737488355328 ∧ ∀ k u, r.l[k]? = some u → ∃ b o, r.q = some ⟨b, o, none⟩ ∧ b < w.heap.size ∧ b ≠ g ∧ w.cell? ⟨b, o + k, none⟩ = some (.int .u16 u)
theorem RwOk.to {w w' : World} {g : Nat} {x : Fd} {r : Rw} (h : RwOk w g x r) (hb : Below w.heap.size w w') : RwOk w' g x r := by
  obtain ⟨h1, h2, h3, h4, h5⟩ := h
  refine ⟨h1, h2, h3, h4, fun k u hk => ?_⟩
  obtain ⟨b, o, hq, hlt, hg, hc⟩ := h5 k u hk
  exact ⟨b, o, hq, Nat.lt_of_lt_of_le hlt hb.size, hg, (hb.cell (p := ⟨b, o + k, none⟩) hlt).trans hc⟩
theorem RwOk.set {w : World} {g : Nat} {x : Fd} {r : Rw} (h : RwOk w g x r) (i : Nat) (v : Value) : RwOk (w.setCell ⟨g, i, none⟩ v) g x r := by
  obtain ⟨h1, h2, h3, h4, h5⟩ := h
  refine ⟨h1, h2, h3, h4, fun k u hk => ?_⟩
  obtain ⟨b, o, hq, hlt, hg, hc⟩ := h5 k u hk
  exact ⟨b, o, hq, by simpa using hlt, hg, (World.cell?_of_block (w := w) (Below.heap_setCell _ _ _ _ hg)).trans hc⟩
theorem RwOk.new {w : World} {B g : Nat} {x : Fd} {q : Option Addr} {m c : Nat} {l : List Int} (h : OwnU w B (.slice q m c) l) (hg : g < B) (hx : l = keyU x) (hl : l.length ≤ 140737488355328) : RwOk w g x ⟨x, q, m, c, l⟩ := by
  rcases h.2 with ⟨e, h0⟩ | ⟨b, cap, cur, e, hB, hb, _, _, _, ht⟩
  · simp only [Value.slice.injEq] at e
    obtain ⟨rfl, rfl, rfl⟩ := e
    refine ⟨rfl, hx, h0.symm, hl, fun k u hk => ?_⟩
    have hk' : l[k]? = some u := hk
    have := (List.getElem?_eq_some_iff.1 hk').1
    omega
  · simp only [Value.slice.injEq] at e
    obtain ⟨rfl, rfl, rfl⟩ := e
    refine ⟨rfl, hx, rfl, hl, fun k u hk => ⟨b, 0, rfl, (Array.getElem?_eq_some_iff.1 hb).1, by omega, ?_⟩⟩
    have hk' : l[k]? = some u := hk
    have hkl := (List.getElem?_eq_some_iff.1 hk').1
    rw [Nat.zero_add, h.cellAt (g := b) k (by omega), List.getElem?_map, hk']; rfl
/-- a row, closed over its base world -/
def RwOk.pl {W0 : World} {g : Nat} {x : Fd} {r : Rw} (h : RwOk W0 g x r) : Pl W0 g := ⟨r.x.1, r.x.2, r.q, r.m, r.c, r.l, h.2.2.1, h.2.2.2.1, h.2.2.2.2⟩
section sorts
open SM
theorem mrg_map {α β : Type} (f : α → β) (lt : α → α → Bool) (lt' : β → β → Bool) (h : ∀ a b, lt a b = lt' (f a) (f b)) : ∀ (n : Nat) (xs ys : List α), xs.length + ys.length ≤ n → (mrg lt xs ys).map f = mrg lt' (xs.map f) (ys.map f)
  | _, [], ys, _ => by rw [mrg_nil_l, List.map_nil, mrg_nil_l]
  | _, x :: xs, [], _ => by rw [mrg_nil_r, List.map_nil, mrg_nil_r]
  | 0, x :: xs, y :: ys, hn => by simp at hn
  | n + 1, x :: xs, y :: ys, hn => by
    rw [mrg_cons, List.map_cons, List.map_cons, mrg_cons, ← h]
    split
    · rw [List.map_cons, mrg_map f lt lt' h n (x :: xs) ys (by simp at hn ⊢; omega)]; rfl
    · rw [List.map_cons, mrg_map f lt lt' h n xs (y :: ys) (by simp at hn ⊢; omega)]; rfl
end sorts
end Go.Proofs.YtnjnhgeafbofkaaDoor
