import Derived.Test.YtbclodbneonipaaGreatSHM
import Derived.Test.YtbclodbneonipaaGreatSIM
import Derived.Test.YtbclodbneonipaaGreatTKM
import Derived.OwnWalk
namespace Go.Proofs.YtbclodbneonipaaGreat
open Go.RowKit N
theorem sym_all : ∀ N, SymUpTo N
  | 0 => fun g rest len cap pre L R post w B hN hB hR hlen hmax hSL hSR hL hRl a m b ha hm hb => by omega
  | N + 1 => fun g rest len cap pre L R post w B hN hB hR hlen hmax hSL hSR hL hRl a m b ha hm hb => by
    subst ha hm hb
    by_cases h1 : L.length = 1
    · obtain ⟨x, rfl⟩ := List.length_eq_one_iff.1 h1
      exact sym_first g rest len cap pre x R post w B hB hR hlen hmax hSR _ _ _ rfl rfl rfl
    · by_cases h2 : R.length = 1
      · obtain ⟨y, rfl⟩ := List.length_eq_one_iff.1 h2
        exact sym_last g rest len cap pre L y post w B hB hR hlen hmax hSL h1 _ _ _ rfl rfl rfl
      · by_cases h3 : (pre.length + (pre.length + L.length + R.length)) / 2 < pre.length + L.length
        · exact sym_big N (sym_all N) g rest len cap pre L R post w B hN hB hR hlen hmax hSL hSR (by omega) (by omega) _ _ _ _ _ _ rfl rfl rfl rfl rfl rfl h3
        · exact sym_small N (sym_all N) g rest len cap pre L R post w B hN hB hR hlen hmax hSL hSR (by omega) (by omega) _ _ _ _ _ _ rfl rfl rfl rfl rfl rfl (by omega)
theorem insertionZ (g : Nat) (rest : List Value) (len cap : Nat) (pre L post : List Pl) (w : World) (B : Nat) (hB : B ≤ g) (hR : Row w g rest (pre ++ (L ++ post))) (hlen : (pre ++ (L ++ post)).length = len) (hmax : len ≤ 35184372088320) (a b : Int) (ha : a = pre.length) (hb : b = (pre.length + L.length : Nat)) :
    Calls Tryz.prog 87 #[.slice (some ⟨g, 0, none⟩) len cap, .int .i64 a, .int .i64 b, CMP] w fun e w' => e = .returned (.tuple #[]) ∧ Row w' g rest (pre ++ (SM.S ltP L ++ post)) ∧ Below B w w' := by
  subst ha hb
  exact insertion g rest len cap pre L post w B hB hR hlen hmax _ _ rfl rfl
theorem SB_step {s : Nat} {D0 Pp Dr D1 D2 : List Pl} (e : Dr = D1 ++ D2) (hl : D1.length = s) (h : ∀ E', SM.SB ltP s Dr E' → SM.SB ltP s D0 (Pp ++ E')) : ∀ E', SM.SB ltP s D2 E' → SM.SB ltP s D0 ((Pp ++ SM.S ltP D1) ++ E') := by
  intro E' hE
  rw [List.append_assoc]
  exact h _ (by rw [e]; exact .more D1 D2 E' hl hE)
set_option maxRecDepth 100000 in
set_option maxHeartbeats 16000000 in
theorem stable (g : Nat) (rest : List Value) (len cap : Nat) (D0 : List Pl) (w : World) (B : Nat) (hB : B ≤ g) (hR : Row w g rest D0) (hlen : D0.length = len) (hmax : len ≤ 35184372088320) :
    Calls Tryz.prog 47 #[.slice (some ⟨g, 0, none⟩) len cap, .int .i64 len, CMP] w fun e w' => e = .returned (.tuple #[]) ∧ Row w' g rest (SM.S ltP D0) ∧ Below B w w' := by
  have HL := Lib.hid hlen
  have HR0 := Lib.hid hR
  clear hR hlen
  unfold CMP
  go_enter Tryz.func47, Tryz.ntmps47
  go_wp2
  go_loopw [7, 8] (fun av bv wr => ∃ (a b : Nat) (Dp Dr Pp : List Pl), av = .int .i64 a ∧ bv = .int .i64 b ∧ a ≤ len ∧ b ≤ a + 20 ∧ a + 20 ≤ b ∧ Hid (D0 = Dp ++ Dr ∧ Dp.length = a ∧ Pp.length = a ∧ (Pp ++ Dr).length = len ∧ ∀ E', SM.SB ltP 20 Dr E' → SM.SB ltP 20 D0 (Pp ++ E')) ∧ Row wr g rest (Pp ++ Dr) ∧ Below B w wr) (fun a _ _ => len - (intOf a).toNat)
  case atStart => exact ⟨0, 20, [], D0, [], rfl, rfl, Nat.zero_le _, by omega, by omega, Lib.hid ⟨rfl, rfl, rfl, by simpa using HL.out, fun E' h => by simpa using h⟩, by simpa using HR0.out, Below.refl _ _⟩
  case round =>
    obtain ⟨a, b, Dp, Dr, Pp, rfl, rfl, hal, hb1, hb2, HI, hRow, hBel⟩ := hrel
    have HRow := Lib.hid hRow
    have HBel := Lib.hid hBel
    clear hRow hBel
    by_cases hbl : b ≤ len
    · have hblz : (b : Int) ≤ (len : Int) := by omega
      go_wp2_with fail
      obtain ⟨h1, h2, h3, h4, h5⟩ := HI.out
      have hDr : Pp.length + Dr.length = len := by rw [← List.length_append]; exact h4
      obtain ⟨D1, D2, rfl, hl1⟩ : ∃ D1 D2, Dr = D1 ++ D2 ∧ D1.length = 20 := ⟨Dr.take 20, Dr.drop 20, by simp, by rw [List.length_take]; omega⟩
      refine (insertionZ g rest len cap Pp D1 D2 _ B hB HRow.out h4 hmax _ _ (by omega) (by omega)).mono ?_
      rintro er w1 ⟨rfl, hR1, hB1⟩
      have hst := SB_step rfl hl1 h5
      have HF : Hid (D0 = (Dp ++ D1) ++ D2 ∧ (Dp ++ D1).length = b ∧ (Pp ++ SM.S ltP D1).length = b ∧ ((Pp ++ SM.S ltP D1) ++ D2).length = len ∧ ∀ E', SM.SB ltP 20 D2 E' → SM.SB ltP 20 D0 ((Pp ++ SM.S ltP D1) ++ E')) := Lib.hid ⟨by rw [h1]; simp, by rw [List.length_append]; omega, by rw [List.length_append, SM.S_length]; omega, by simp only [List.length_append, SM.S_length] at h4 ⊢; omega, hst⟩
      have HR1 : Hid (Row w1 g rest ((Pp ++ SM.S ltP D1) ++ D2)) := Lib.hid (by simpa using hR1)
      have HB1 := Lib.hid (HBel.out.trans hB1)
      clear h1 h2 h3 h4 h5 hDr hl1 hR1 hB1 hst
      go_wp2
      go_roundw
      case rel => exact ⟨b, b + 20, Dp ++ D1, D2, Pp ++ SM.S ltP D1, rfl, by go_num, hbl, by omega, by omega, HF, HR1.out, HB1.out⟩
      case measure => simp [intOf]; omega
    · have hblz : ¬ (b : Int) ≤ (len : Int) := by omega
      go_wp2_with fail
      obtain ⟨h1, h2, h3, h4, h5⟩ := HI.out
      have hDr : Pp.length + Dr.length = len := by rw [← List.length_append]; exact h4
      refine (insertionZ g rest len cap Pp Dr [] _ B hB (by simpa using HRow.out) (by simpa using h4) hmax _ _ (by omega) (by omega)).mono ?_
      rintro er w1 ⟨rfl, hR1, hB1⟩
      have HSB : Hid (SM.SB ltP 20 D0 (Pp ++ SM.S ltP Dr)) := Lib.hid (h5 _ (.last Dr (by omega)))
      have HR1 : Hid (Row w1 g rest (Pp ++ SM.S ltP Dr)) := Lib.hid (by simpa using hR1)
      have HB1 := Lib.hid (HBel.out.trans hB1)
      generalize Pp ++ SM.S ltP Dr = E1 at HSB HR1
      clear h1 h2 h3 h4 h5 hDr hR1 hB1 HRow HBel HI hblz hbl hal hb1 hb2
      go_wp2
      obtain ⟨wo, rfl⟩ : ∃ wo : World, wo = wr := ⟨_, rfl⟩
      go_loopw [6, 7, 8, 9] (fun sv _ _ _ wr => ∃ (s : Nat) (E : List Pl), sv = .int .i64 s ∧ 1 ≤ s ∧ s ≤ 2 * len + 20 ∧ Hid (SM.SB ltP s D0 E) ∧ Row wr g rest E ∧ Below B w wr) (fun sv _ _ _ _ => 2 * len + 20 - (intOf sv).toNat)
      case atStart => exact ⟨20, E1, rfl, by omega, by omega, HSB, HR1.out, HB1.out⟩
      case round =>
        obtain ⟨s, E, rfl, hs1, hs2, HE, hRow, hBel⟩ := hrel
        have HRow := Lib.hid hRow
        have HBel := Lib.hid hBel
        clear hRow hBel HSB HR1 HB1
        by_cases hsl : s < len
        · have hslz : (s : Int) < (len : Int) := by omega
          have ws2 : IntKind.i64.wrap (2 * (s : Int)) = 2 * (s : Int) := IntWalk.i64_in _ (by omega)
          have ws3 : IntKind.i64.wrap ((s : Int) * 2) = (s : Int) * 2 := IntWalk.i64_in _ (by omega)
          go_wp2_with fail
          obtain ⟨wi, rfl⟩ : ∃ wi : World, wi = wr := ⟨_, rfl⟩
          go_loopw [7, 8] (fun av bv wr => ∃ (a b : Nat) (Dp Dr Pp Er : List Pl), av = .int .i64 a ∧ bv = .int .i64 b ∧ a ≤ len ∧ b ≤ a + 2 * s ∧ a + 2 * s ≤ b ∧ Hid (D0 = Dp ++ Dr ∧ Dp.length = a ∧ Pp.length = a ∧ a + Dr.length = len ∧ Er.length = Dr.length ∧ SM.SB ltP s Dr Er ∧ ∀ E', SM.SB ltP (2 * s) Dr E' → SM.SB ltP (2 * s) D0 (Pp ++ E')) ∧ Row wr g rest (Pp ++ Er) ∧ Below B w wr) (fun a _ _ => len - (intOf a).toNat)
          case atStart => exact ⟨0, 2 * s, [], D0, [], E, rfl, by go_num, Nat.zero_le _, by omega, by omega, Lib.hid ⟨rfl, rfl, rfl, by rw [Nat.zero_add]; exact HL.out, HE.out.length, HE.out, fun E' h => by simpa using h⟩, by simpa using HRow.out, HBel.out⟩
          case round =>
            obtain ⟨a, b, Dp, Dr, Pp, Er, rfl, rfl, hal, hb1, hb2, HI, hRow, hBel⟩ := hrel
            have HRow2 := Lib.hid hRow
            have HBel2 := Lib.hid hBel
            have wbs : IntKind.i64.wrap ((b : Int) + 2 * (s : Int)) = (b : Int) + 2 * (s : Int) := IntWalk.i64_in _ (by omega)
            have was : IntKind.i64.wrap ((a : Int) + (s : Int)) = (a : Int) + (s : Int) := IntWalk.i64_in _ (by omega)
            clear hRow hBel
            by_cases hbl : b ≤ len
            · have hblz : (b : Int) ≤ (len : Int) := by omega
              go_wp2_with fail
              obtain ⟨h1, h2, h3, h4, h5, h6, h7⟩ := HI.out
              obtain ⟨D1, Dx, Ex, rfl, hl1, rfl, hx⟩ := h6.first (by omega)
              obtain ⟨D2, D3, E3, rfl, hl2, rfl, h8⟩ := hx.first (by simp only [List.length_append] at h4; omega)
              have hs1 := SM.S_length ltP D1
              have hs2 := SM.S_length ltP D2
              simp only [List.length_append] at h4 h5
              refine (sym_all _ g rest len cap Pp (SM.S ltP D1) (SM.S ltP D2) E3 _ B (Nat.le_refl _) hB (by simpa using HRow2.out) (by simp only [List.length_append]; omega) hmax (SM.S_srt ltP_ord _) (SM.S_srt ltP_ord _) (by omega) (by omega) _ _ _ (by omega) (by omega) (by omega)).mono ?_
              rintro er w1 ⟨rfl, hR1, hB1⟩
              have HF : Hid (D0 = (Dp ++ (D1 ++ D2)) ++ D3 ∧ (Dp ++ (D1 ++ D2)).length = b ∧ (Pp ++ SM.S ltP (D1 ++ D2)).length = b ∧ b + D3.length = len ∧ E3.length = D3.length ∧ SM.SB ltP s D3 E3 ∧ ∀ E', SM.SB ltP (2 * s) D3 E' → SM.SB ltP (2 * s) D0 ((Pp ++ SM.S ltP (D1 ++ D2)) ++ E')) := Lib.hid ⟨by rw [h1]; simp, by simp only [List.length_append]; omega, by simp only [List.length_append, SM.S_length]; omega, by omega, h8.length, h8, SB_step (s := 2 * s) (Dr := D1 ++ (D2 ++ D3)) (by simp) (by simp only [List.length_append]; omega) h7⟩
              have HR1 : Hid (Row w1 g rest ((Pp ++ SM.S ltP (D1 ++ D2)) ++ E3)) := Lib.hid (by rw [SM.S_app ltP_ord]; simpa using hR1)
              have HB1 := Lib.hid (HBel2.out.trans hB1)
              clear h1 h2 h3 h4 h5 h6 h7 h8 hx hl1 hl2 hs1 hs2 hR1 hB1
              go_wp2
              go_roundw
              case rel => exact ⟨b, b + 2 * s, Dp ++ (D1 ++ D2), D3, Pp ++ SM.S ltP (D1 ++ D2), E3, rfl, by go_num, hbl, by omega, by omega, HF, HR1.out, HB1.out⟩
              case measure => simp [intOf]; omega
            · have hblz : ¬ (b : Int) ≤ (len : Int) := by omega
              by_cases hml : a + s < len
              · have hmlz : (a : Int) + (s : Int) < (len : Int) := by omega
                go_wp2_with fail
                obtain ⟨h1, h2, h3, h4, h5, h6, h7⟩ := HI.out
                obtain ⟨D1, D2, E2, rfl, hl1, rfl, h8⟩ := h6.front (by omega)
                simp only [List.length_append] at h4 h5
                have h9 := h8.whole (by omega)
                subst h9
                have hs1 := SM.S_length ltP D1
                have hs2 := SM.S_length ltP D2
                refine (sym_all _ g rest len cap Pp (SM.S ltP D1) (SM.S ltP D2) [] _ B (Nat.le_refl _) hB (by simpa using HRow2.out) (by simp only [List.length_append, List.length_nil]; omega) hmax (SM.S_srt ltP_ord _) (SM.S_srt ltP_ord _) (by omega) (by omega) _ _ _ (by omega) (by omega) (by omega)).mono ?_
                rintro er w1 ⟨rfl, hR1, hB1⟩
                have HF : Hid (SM.SB ltP (s * 2) D0 (Pp ++ SM.S ltP (D1 ++ D2))) := Lib.hid (by rw [Nat.mul_comm]; exact h7 _ (.last _ (by simp only [List.length_append]; omega)))
                have HR1 : Hid (Row w1 g rest (Pp ++ SM.S ltP (D1 ++ D2))) := Lib.hid (by rw [SM.S_app ltP_ord]; simpa using hR1)
                have HB1 := Lib.hid (HBel2.out.trans hB1)
                clear h1 h2 h3 h4 h5 h6 h7 h8 hl1 hs1 hs2 hR1 hB1
                go_wp2
                go_roundw
                case rel => exact ⟨s * 2, Pp ++ SM.S ltP (D1 ++ D2), by go_num, by omega, by omega, HF, HR1.out, HB1.out⟩
                case measure => simp [intOf]; omega
              · have hmlz : ¬ (a : Int) + (s : Int) < (len : Int) := by omega
                have HF : Hid (SM.SB ltP (s * 2) D0 (Pp ++ Er)) := Lib.hid (by
                  obtain ⟨h1, h2, h3, h4, h5, h6, h7⟩ := HI.out
                  rw [Nat.mul_comm, h6.whole (by omega)]
                  exact h7 _ (.last _ (by omega)))
                go_wp2
                go_roundw
                case rel => exact ⟨s * 2, Pp ++ Er, by go_num, by omega, by omega, HF, HRow2.out, HBel2.out⟩
                case measure => simp [intOf]; omega
        · have hslz : ¬ (s : Int) < (len : Int) := by omega
          have HF : Hid (E = SM.S ltP D0) := Lib.hid (HE.out.whole (by have := HL.out; omega))
          go_wp2
          go_end0
          exact ⟨rfl, by rw [← HF.out]; exact HRow.out, HBel.out⟩
end Go.Proofs.YtbclodbneonipaaGreat
namespace Go.Proofs.YtbclodbneonipaaGreat
open Go.RowKit N
set_option maxHeartbeats 1000000 in
theorem sortStable (g : Nat) (rest : List Value) (len cap : Nat) (D0 : List Pl) (w : World) (B : Nat) (hB : B ≤ g) (hR : Row w g rest D0) (hlen : D0.length = len) (hmax : len ≤ 35184372088320) :
    Calls Tryz.prog 27 #[.slice (some ⟨g, 0, none⟩) len cap, CMP] w fun e w' => e = .returned (.tuple #[]) ∧ Row w' g rest (SM.S ltP D0) ∧ Below B w w' := by
  have hl : len ≤ maxLen := by unfold maxLen; omega
  go_enter Tryz.func27, Tryz.ntmps27
  go_wp2_with fail
  refine (stable g rest len cap D0 _ B hB hR hlen hmax).mono ?_
  rintro e w' ⟨rfl, h1, h2⟩
  have H1 := Lib.hid h1
  have H2 := Lib.hid h2
  clear h1 h2 hR hlen
  go_wp2
  go_end0
  exact ⟨rfl, H1.out, H2.out⟩
end Go.Proofs.YtbclodbneonipaaGreat
