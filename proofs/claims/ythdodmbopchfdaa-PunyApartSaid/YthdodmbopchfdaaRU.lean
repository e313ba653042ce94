import Derived.Test.YthdodmbopchfdaaRT
namespace Go.Proofs.Ythdodmbopchfdaa
open Go.RowKit P
attribute [local go_sem ↓] Go.wp_at_zero Go.wp_at_succ
/-- how an answer of runes and an error's number looks -/
def decRes (L : List Int) (c : Int) (w : World) (e : Ending) (w' : World) : Prop := ∃ v, e = .returned (.tuple #[v, .int .i64 c]) ∧ RunesAt w' v L ∧ (L = [] → c ≠ 0 → v = .slice none 0 0) ∧ Below w.heap.size w w'
theorem own_at {w : World} {B : Nat} {v : Value} {l : List Int} (h : Own w B v l) : RunesAt w v l := by
  obtain ⟨p, cap, hv, hc⟩ := h.form
  refine ⟨p, cap, hv, fun k x hk => ?_⟩
  obtain ⟨g, hp, _, hg, hx, _⟩ := hc k x hk
  exact ⟨g, 0, hp, hg, by rw [Nat.zero_add]; exact hx⟩
theorem runes_nil (w : World) : RunesAt w (.slice none 0 0) [] := ⟨none, 0, rfl, fun k x hk => by simp at hk⟩
theorem decRes_err {c : Int} {w w' : World} (hb : Below w.heap.size w w') : decRes [] c w (.returned (.tuple #[.slice none 0 0, .int .i64 c])) w' := ⟨_, rfl, runes_nil _, fun _ _ => rfl, hb⟩
theorem toInts_snoc (u : ByteArray) (k : Nat) (h : k < u.size) : toInts (u.data.toList.take (k + 1)) = toInts (u.data.toList.take k) ++ [(u[k].toNat : Int)] := by
  unfold toInts
  rw [List.take_succ_eq_append_getElem (by simpa using h), List.map_append]; rfl
theorem dec_stop {f : Nat} {n i b : Int} {out : List Int} : dec f [] n i b out = (out, 0) := by cases f <;> rfl
theorem dec_err {f : Nat} {c : UInt8} {t : List UInt8} {n i b e : Int} {out : List Int} (h : num (c :: t) 36 1 i b = .err e) : dec (f + 1) (c :: t) n i b out = ([], e) := by rw [dec, h]
theorem dec_may {f : Nat} {c : UInt8} {t rest : List UInt8} {n i b i' : Int} {out : List Int} (h : num (c :: t) 36 1 i b = .ok i' rest) (hm : U.May (n + i' / (out.length + 1))) : dec (f + 1) (c :: t) n i b out = dec f rest (n + i' / (out.length + 1)) (i' % (out.length + 1) + 1) (bias (i' - i) (out.length + 1) (i == 0)) (ins out (i' % (out.length + 1)).toNat (n + i' / (out.length + 1))) := by rw [dec, h]; dsimp only; rw [if_pos hm]
theorem dec_not {f : Nat} {c : UInt8} {t rest : List UInt8} {n i b i' : Int} {out : List Int} (h : num (c :: t) 36 1 i b = .ok i' rest) (hm : ¬ U.May (n + i' / (out.length + 1))) : dec (f + 1) (c :: t) n i b out = ([], 9) := by rw [dec, h]; dsimp only; rw [if_neg hm]
theorem decode_long (u : ByteArray) (hu : 4096 < u.size) (hu2 : u.size ≤ maxLen) (w : World) : Calls Try.prog 11 #[.string u] w (decRes (decS u).1 (decS u).2 w) := by
  have H : decS u = ([], 4) := by unfold decS; rw [if_pos hu]
  unfold maxLen at hu2
  rw [H]
  go_enter Try.func11, Try.ntmps11
  go_wp2
  go_ret2
  exact decRes_err (Below.refl _ _)
set_option maxRecDepth 100000 in
set_option maxHeartbeats 8000000 in
theorem decode_go (u : ByteArray) (hu : u.size ≤ 4096) (L : List Int) (c : Int) (hL : decS u = (L, c)) (w : World) : Calls Try.prog 11 #[.string u] w (decRes L c w) := by
  obtain ⟨i0, hi, hz0, hz1, hz2⟩ := info_parts infoRune
  have HL := Lib.hid hL
  clear hL
  go_enter Try.func11, Try.ntmps11
  go_wp2_with fail
  refine (cut_is u hu _).mono ?_
  rintro e w1 ⟨p, N, rfl, hp, hN, hb1⟩
  have hpl : p.size ≤ 4096 := by
    have : p.data.toList.length ≤ u.data.toList.length := by rw [hp]; unfold plainL; exact List.length_take_le' _ _
    rw [Array.length_toList, Array.length_toList] at this
    exact Nat.le_trans this hu
  have hNl : N.size ≤ 4096 := by
    have : N.data.toList.length ≤ u.data.toList.length := by rw [hN]; unfold numsL; rw [List.length_drop]; omega
    rw [Array.length_toList, Array.length_toList] at this
    exact Nat.le_trans this hu
  have hsum : p.size + N.size ≤ 4096 := by
    have hbd := lastH_bd u
    have h1 : p.data.toList.length = min (lastH u).toNat u.size := by rw [hp]; unfold plainL; rw [List.length_take]; rfl
    have h2 : N.data.toList.length = u.size - (lastH u + 1).toNat := by rw [hN]; unfold numsL; rw [List.length_drop]; rfl
    have h3 : p.data.toList.length = p.size := by rw [Array.length_toList]; rfl
    have h4 : N.data.toList.length = N.size := by rw [Array.length_toList]; rfl
    omega
  have HPl := Lib.hid hp
  have HNl := Lib.hid hN
  have hw1 := hb1.size
  have HB1 := Lib.hid hb1
  obtain ⟨g, hg⟩ : ∃ g, w1.heap.size = g := ⟨_, rfl⟩
  have HG := Lib.hid hg
  clear hp hN hb1
  go_wp2_with fail
  have hg0 : Has (w1.alloc (.cells (RC N 0 (.slice none 0 0) 0 128 72) 46)) g (.cells (RC N 0 (.slice none 0 0) 0 128 72) 46) := by rw [← hg]; exact Has.new w1 _
  have HR0 : Hid (Rd g g N 0 [] 0 128 72 (w1.alloc (.cells (RC N 0 (.slice none 0 0) 0 128 72) 46))) := Lib.hid ⟨Nat.le_refl _, _, hg0, World.ownsRow_nil _ _ _ _⟩
  have hbn := bnew w1 (.cells (RC N 0 (.slice none 0 0) 0 128 72) 46)
  rw [hg] at hbn
  clear hg0
  go_loopw [22] (fun i wr => ∃ (k : Nat) (pre : List Int), k ≤ p.size ∧ i = .int .i64 k ∧ pre.length ≤ k ∧ Hid (toInts (p.data.toList.take k) = pre) ∧ Hid (Rd g g N 0 pre 0 128 72 wr) ∧ Hid (∀ c ∈ p.data.toList.take k, c.toNat < 128) ∧ Below g w1 wr) (fun i _ => p.size - (intOf i).toNat)
  case atStart => exact ⟨0, [], by omega, rfl, Nat.le_refl _, Lib.hid rfl, HR0, Lib.hid (by intro c hc; simp at hc), hbn⟩
  case round =>
    clear HR0 hbn
    obtain ⟨k, pre, hk, rfl, hpk, HPre, HRd, HAll, hbel⟩ := hrel
    obtain ⟨w9, rfl⟩ : ∃ w9 : World, w9 = wr := ⟨_, rfl⟩
    have hsz9 : g ≤ w9.heap.size := by have := hbel.size; omega
    by_cases hlt : k < p.size
    · have HT := Lib.hid (toInts_snoc p k hlt)
      have hpc := p[k].toNat_lt
      have i1 : (k : Int) < (p.size : Int) := by omega
      have i2 : (0 : Int) ≤ (k : Int) := by omega
      have HTk := Lib.hid (List.take_succ_eq_append_getElem (l := p.data.toList) (i := k) (by simpa using hlt))
      by_cases hc : p[k].toNat < 128
      · have HC := Lib.hid hc
        obtain ⟨hBg, v, hG, hO⟩ := HRd.out
        obtain ⟨pv, cv, hv, _⟩ := hO.form
        subst hv
        have c2 : w9.cell? ⟨g, 2, none⟩ = some (.slice pv pre.length cv) := hG.cell 2 rfl
        have fz2 := hG.free 2
        have hgl := hG.lt
        obtain ⟨x, hx⟩ : ∃ x : Int, (p[k].toNat : Int) = x := ⟨_, rfl⟩
        have hx0 : 0 ≤ x ∧ x < 128 := by omega
        have hax := Has.alloc hG (.cells #[.int .i32 x] 21)
        have hne := own_ne (hO.alloc (.cells #[.int .i32 x] 21)) hax (by decide)
        have hne2 := ne_own hne
        have fz2d : (w9.alloc (.cells #[.int .i32 x] 21)).drew.frozen? ⟨g, 2, none⟩ = false := (frozen_drew _ _).trans (hax.free 2)
        have c2d : (w9.alloc (.cells #[.int .i32 x] 21)).drew.cell? ⟨g, 2, none⟩ = some (.slice pv pre.length cv) := (cell_drew _ _).trans (hax.cell 2 rfl)
        have hO2 := (hO.alloc (.cells #[.int .i32 x] 21)).drew
        have HBx := Lib.hid ((hbel.alloc (by omega) (.cells #[.int .i32 x] 21)).drew)
        have hone : pre.length + 1 ≤ maxLen := by unfold maxLen; omega
        have j1 : IntKind.i32.wrap x = x := IntWalk.i32_in _ (by omega)
        have j2 : IntKind.u8.wrap x = x := IntWalk.u8_in _ (by omega)
        have HT2 : Hid (toInts (p.data.toList.take (k + 1)) = pre ++ [x]) := Lib.hid (by rw [HT.out, HPre.out, hx])
        clear HT hc
        go_wp2_with fail
        go_region_law ((refine step_append_lies _ (by rfl) _ _ _ (by rfl) g 21 i0 _ 1 4 Try.underlying22 hi hz0 hz1 hz2 rfl (by omega) (.slice pv pre.length cv) pre.length (pre.map (Value.int .i32)) (by rfl) hO2 ⟨w9.heap.size, 0, none⟩ 1 1 [.int .i32 x] (by rfl) (by rfl) (World.news_of_block (cs := #[.int .i32 x]) (t := 21) (fr := (0, 0)) (heap_alloc_new w9 _)) (one32 x) (by omega) hone (by omega) (by simp; omega) (w9.heap.size + 1) (by simp) ?_; intro gg cap w4 hown1 hgrow hat hlt2; have fzx := (hgrow.frozen_far ⟨g, 2, none⟩ (by simp; omega) hne2).trans fz2d; have cx := (hgrow.cell_far ⟨g, 2, none⟩ (by simp; omega) hne2).trans c2d))
        all_goals
          have HG1 := has_past (w := (w9.alloc (.cells #[.int .i32 x] 21)).drew) (v := .slice pv pre.length cv) hax hgrow hne
          have HO1 : Own w4 g (.slice (some ⟨gg, 0, none⟩) (pre.length + 1) cap) (pre ++ [x]) := own_snoc hown1
          have HB4 : Below g w1 w4 := HBx.out.grown hgrow (by simp; omega) (fun k hk => (hO2.lt k hk).1)
          have HG2 := HG1.set 2 (.slice (some ⟨gg, 0, none⟩) (pre.length + 1) cap)
          have HO3 := own_set HO1 HG1 (by decide) 2 (.slice (some ⟨gg, 0, none⟩) (pre.length + 1) cap)
          have HB5 := HB4.setCell (p := ⟨g, 2, none⟩) hBg (.slice (some ⟨gg, 0, none⟩) (pre.length + 1) cap)
          have HA2 : Hid (∀ c ∈ p.data.toList.take (k + 1), c.toNat < 128) := Lib.hid (by
            intro c hc
            rw [HTk.out] at hc
            rcases List.mem_append.1 hc with h | h
            · exact HAll.out c h
            · rw [List.mem_singleton.1 h]; exact HC.out)
          clear hown1 hgrow
          go_wp2
          exact ⟨⟨k + 1, pre ++ [x], by omega, by go_num, by simp; omega, HT2, Lib.hid ⟨hBg, _, HG2, HO3⟩, HA2, HB5⟩, by simp [intOf]; omega⟩
      · have HX : Hid (decS u = ([], 9)) := Lib.hid (by
          unfold decS
          rw [if_neg (by omega), if_pos ⟨p[k], by rw [← HPl.out]; exact List.getElem_mem (by simpa using hlt), by omega⟩])
        have HE : Hid (L = [] ∧ c = 9) := Lib.hid (by have := HL.out.symm.trans HX.out; simp only [Prod.mk.injEq] at this; exact this)
        obtain ⟨rfl, rfl⟩ := HE.out
        go_wp2
        go_ret2
        exact decRes_err (bel2 HB1.out (by rw [HG.out]; exact hbel))
    · have HPre2 : Hid (toInts p.data.toList = pre) := Lib.hid (by have := HPre.out; rwa [List.take_of_length_le (by rw [Array.length_toList]; exact Nat.le_of_not_lt hlt)] at this)
      have HDec : Hid (dec N.size (N.data.toList.drop 0) 128 0 72 pre = (L, c)) := Lib.hid (by
        rw [← HL.out]
        unfold decS
        rw [if_neg (by omega), if_neg (by
          rintro ⟨x, hx, hx2⟩
          have := HAll.out x (by rw [List.take_of_length_le (by rw [Array.length_toList]; exact Nat.le_of_not_lt hlt), HPl.out]; exact hx)
          omega), ← HPl.out, ← HNl.out, HPre2.out, List.drop_zero, Array.length_toList]; rfl)
      clear HPre HAll HPre2
      go_wp2_with fail
      go_loopw [8] (fun _ wr => ∃ (f a : Nat) (l : List Int) (n i b : Int), Hid (dec f (N.data.toList.drop a) n i b l = (L, c)) ∧ Hid (Rd g g N a l i n b wr) ∧ Below g w1 wr ∧ a ≤ N.size ∧ N.size ≤ f + a ∧ 0 ≤ i ∧ i ≤ l.length ∧ 0 ≤ n ∧ n ≤ 1114111 ∧ 0 ≤ b ∧ b ≤ 10000000000 ∧ l.length ≤ p.size + a) (fun _ wr => N.size - aOf wr g)
      case atStart => exact ⟨N.size, 0, pre, 128, 0, 72, HDec, HRd, hbel, by omega, by omega, by omega, by omega, by omega, by omega, by omega, by omega, by omega⟩
      case round =>
        clear HDec HRd hbel
        obtain ⟨f, a, l, n, i, b, HD, HR, hbel, ha, hf, hi0, hi1, hn0, hn1, hb0, hb1, hl⟩ := hrel
        obtain ⟨w5, rfl⟩ : ∃ w5 : World, w5 = wr := ⟨_, rfl⟩
        have hsz5 : g ≤ w5.heap.size := by have := hbel.size; omega
        have HAo := Lib.hid (aOf_is HR.out)
        by_cases hlt2 : a < N.size
        · obtain ⟨f, rfl⟩ : ∃ k, f = k + 1 := ⟨f - 1, by omega⟩
          have HDr := Lib.hid (drop_cons8 N a hlt2)
          obtain ⟨res, hres⟩ : ∃ res, num (N.data.toList.drop a) 36 1 i b = res := ⟨_, rfl⟩
          have HRes := Lib.hid hres
          clear hres
          go_wp2_with fail
          refine (left_is g g N a l i n b true (by simp; omega) (by omega) (by omega) _ HR.out).mono ?_
          rintro e w6 ⟨rfl, hb6⟩
          have HR6 := Lib.hid (HR.out.to hb6)
          have HB6 := Lib.hid (hbel.trans (hb6.mono hsz5))
          have hsz6 := HB6.out.size
          clear hb6
          go_wp2_with fail
          refine (step_is g g N a l i n b res HRes.out hNl ha hi0 (by omega) hn0 hn1 hb0 hb1 (by omega) _ HR6.out).mono ?_
          intro e w7 hsp
          cases res with
          | err c' =>
            obtain ⟨rfl, hc', hb7⟩ := hsp
            have HX : Hid (L = [] ∧ c = c') := Lib.hid (by
              have h := HRes.out
              rw [HDr.out] at h
              have h2 : dec (f + 1) (N.data.toList.drop a) n i b l = ([], c') := by rw [HDr.out]; exact dec_err h
              have := HD.out.symm.trans h2
              simp only [Prod.mk.injEq] at this; exact this)
            have hc2 : (c' != 0) = true := by simpa using hc'
            obtain ⟨rfl, rfl⟩ := HX.out
            go_wp2
            go_ret2
            exact decRes_err (bel2 HB1.out (by rw [HG.out]; exact HB6.out.trans hb7))
          | ok i' rest =>
            rcases hsp with ⟨hmay, rfl, ⟨a', ha1, ha2, hrest, hR7⟩, h0, h1, hb7⟩ | ⟨hmay, rfl, hb7⟩
            · have HB7 := Lib.hid (HB6.out.trans hb7)
              have HX : Hid (dec f (N.data.toList.drop a') (n + i' / ((l.length : Int) + 1)) (i' % ((l.length : Int) + 1) + 1) (bias (i' - i) ((l.length : Int) + 1) (i == 0)) (ins l (i' % ((l.length : Int) + 1)).toNat (n + i' / ((l.length : Int) + 1))) = (L, c)) := Lib.hid (by
                have h := HRes.out
                rw [HDr.out] at h
                have := HD.out
                rw [HDr.out, dec_may h hmay] at this
                rw [hrest]; exact this)
              have HR7 := Lib.hid hR7
              have hm0 := Int.emod_nonneg i' (show ((l.length : Int) + 1) ≠ 0 by omega)
              have hm1 := Int.emod_lt_of_pos i' (show (0 : Int) < (l.length : Int) + 1 by omega)
              have hnm : 0 ≤ n + i' / ((l.length : Int) + 1) ∧ n + i' / ((l.length : Int) + 1) ≤ 1114111 := by unfold U.May at hmay; omega
              have hib : i ≤ i' := by
                obtain ⟨vs, δ, _, g2, g3, g4, _⟩ := num_par _ _ _ _ _ _ _ HRes.out
                have := digs_par g2 (by have := g3 []; rwa [List.append_nil] at this)
                omega
              have hbb := bias_bd (first := i == 0) (show 0 ≤ i' - i by omega) (show 1 ≤ (l.length : Int) + 1 by omega)
              have HAo2 := Lib.hid (aOf_is hR7)
              have hil := ins_len (l := l) (p := (i' % ((l.length : Int) + 1)).toNat) (v := n + i' / ((l.length : Int) + 1))
              clear hR7 hb7 hmay hrest
              generalize i' % ((l.length : Int) + 1) = m at *
              generalize n + i' / ((l.length : Int) + 1) = n' at *
              generalize bias (i' - i) ((l.length : Int) + 1) (i == 0) = b' at *
              generalize ins l m.toNat n' = l' at *
              have hil2 : l'.length ≤ p.size + a' := by omega
              have hil3 : m + 1 ≤ l'.length := by omega
              clear hil
              go_wp2
              exact ⟨⟨f, a', l', n', m + 1, b', HX, HR7, HB7.out, ha2, by omega, by omega, hil3, hnm.1, hnm.2, hbb.1, by omega, hil2⟩, by rw [HAo2.out, HAo.out]; omega⟩
            · have HX : Hid (L = [] ∧ c = 9) := Lib.hid (by
                have h := HRes.out
                rw [HDr.out] at h
                have h2 : dec (f + 1) (N.data.toList.drop a) n i b l = ([], 9) := by rw [HDr.out]; exact dec_not h hmay
                have := HD.out.symm.trans h2
                simp only [Prod.mk.injEq] at this; exact this)
              obtain ⟨rfl, rfl⟩ := HX.out
              go_wp2
              go_ret2
              exact decRes_err (bel2 HB1.out (by rw [HG.out]; exact HB6.out.trans hb7))
        · have HX : Hid (L = l ∧ c = 0) := Lib.hid (by
            have := HD.out
            rw [drop_end8 N a hlt2, dec_stop] at this
            simp only [Prod.mk.injEq] at this
            exact ⟨this.1.symm, this.2.symm⟩)
          go_wp2_with fail
          refine (left_is g g N a l i n b false (by simp; omega) (by omega) (by omega) _ HR.out).mono ?_
          rintro e w6 ⟨rfl, hb6⟩
          obtain ⟨hBg, v, hG6, hO6⟩ := HR.out.to hb6
          obtain ⟨pv, cv, hv, _⟩ := hO6.form
          subst hv
          have c2 : w6.cell? ⟨g, 2, none⟩ = some (.slice pv l.length cv) := hG6.cell 2 rfl
          have HO6 := Lib.hid hO6
          have HB6 := Lib.hid (hbel.trans (hb6.mono hsz5))
          clear hb6 hG6 hO6
          obtain ⟨rfl, rfl⟩ := HX.out
          go_wp2
          go_ret2
          exact ⟨_, rfl, own_at HO6.out, fun _ h => absurd rfl h, bel2 HB1.out (by rw [HG.out]; exact HB6.out)⟩
theorem decode_is (u : ByteArray) (hu : u.size ≤ maxLen) (L : List Int) (c : Int) (hL : decS u = (L, c)) (w : World) : Calls Try.prog 11 #[.string u] w (decRes L c w) := by
  by_cases h : u.size ≤ 4096
  · exact decode_go u h L c hL w
  · have := decode_long u (by omega) hu w
    rw [hL] at this
    exact this
end Go.Proofs.Ythdodmbopchfdaa
