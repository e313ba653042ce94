import Derived.Test.YtempmmkdppelaaaGreatDoorBKM
/-
  How long what is read may be.
-/
namespace Go.Proofs.YtempmmkdppelaaaGreatDoor
open Go.RowKit
def Sh (n : Nat) (l : List Dir) : Prop := ∀ d ∈ l, d.1.size ≤ n ∧ ∀ v ∈ d.2, v.size ≤ n
theorem parts_len (c : UInt8) : ∀ s : List UInt8, ∀ p ∈ Ks.partsAt c s, p.length ≤ s.length
  | [], p, hp => by simp [Ks.partsAt] at hp; subst hp; simp
  | b :: s, p, hp => by
    have ih := parts_len c s
    rw [Ks.partsAt] at hp
    split at hp
    · rcases List.mem_cons.1 hp with rfl | hp
      · simp
      · have := ih p hp; simp; omega
    · rcases List.mem_cons.1 hp with rfl | hp
      · cases hq : Ks.partsAt c s with
        | nil => exact absurd hq (Ks.partsAt_ne c s)
        | cons q qs =>
          have := ih q (by rw [hq]; simp)
          simp only [List.headD_cons, List.length_cons]; omega
      · have := ih p (List.mem_of_mem_tail hp); simp; omega
theorem stepD_sh {n : Nat} {st : Option (List Dir)} {p : List UInt8} (hp : p.length ≤ n) (h : ∀ l, st = some l → Sh n l) : ∀ l, stepD st p = some l → Sh n l := by
  intro l hl
  unfold stepD at hl
  cases st with
  | none => cases hl
  | some l0 =>
    have h0 := h l0 rfl
    have hw := words_size p
    simp only at hl
    split at hl
    · cases hl; exact h0
    · rename_i a vs hws
      rw [hws] at hw
      split at hl
      · cases hl; exact h0
      · split at hl
        · cases hl
        · cases hl
          intro d hd
          rcases List.mem_append.1 hd with hd | hd
          · exact h0 d hd
          · rw [List.mem_singleton] at hd; subst hd
            refine ⟨?_, fun v hv => ?_⟩
            · show (lowS a).size ≤ n
              rw [lows_size]; have := hw a (by simp); omega
            · have := hw v (by simp only at hv; simp [hv]); omega
theorem parseP_sh {s : ByteArray} {l : List Dir} (h : parseP s = .ok l) : s.size ≤ 4096 ∧ Sh 4096 l := by
  unfold parseP at h
  split at h
  · cases h
  · rename_i h4
    split at h
    · cases h
    · rename_i l' hp; cases h
      refine ⟨by omega, ?_⟩
      unfold parseD partsD at hp
      have hno : ∀ p ∈ Ks.partsAt 59 s.data.toList, p.length ≤ 4096 := fun p hp => by
        have := parts_len 59 _ p hp
        rw [Ks.len_list] at this; omega
      revert hp hno
      generalize Ks.partsAt 59 s.data.toList = ps
      suffices ∀ (ps : List (List UInt8)) (st : Option (List Dir)), (∀ p ∈ ps, p.length ≤ 4096) → (∀ l, st = some l → Sh 4096 l) → ∀ l, ps.foldl stepD st = some l → Sh 4096 l from
        fun hp hno => this ps (some []) hno (fun l hl => by cases hl; intro d hd; simp at hd) _ hp
      intro ps
      induction ps with
      | nil => exact fun st _ h => h
      | cons p ps ih => exact fun st hno h => ih _ (fun q hq => hno q (by simp [hq])) (stepD_sh (hno p (by simp)) h)
theorem flatMap_len {α β : Type} {f : α → List β} {k : Nat} : ∀ {l : List α}, (∀ x ∈ l, (f x).length ≤ k) → (l.flatMap f).length ≤ l.length * k
  | [], _ => by simp
  | x :: l, h => by
    rw [List.flatMap_cons, List.length_append, List.length_cons, Nat.add_mul, Nat.one_mul]
    have := flatMap_len (l := l) fun y hy => h y (by simp [hy])
    have := h x (by simp)
    omega
theorem dirT_len {d : Dir} (h : d.1.size ≤ 4096 ∧ ∀ v ∈ d.2, v.size ≤ 4096) (h64 : d.2.length ≤ 64) : (dirT d).length ≤ 266304 := by
  unfold dirT
  rw [List.length_append, Ks.len_list]
  have := flatMap_len (f := fun v : ByteArray => 32 :: v.data.toList) (k := 4097) (l := d.2) fun v hv => by
    have := h.2 v hv
    simp only [List.length_cons, Ks.len_list]; omega
  have h1 : d.2.length * 4097 ≤ 64 * 4097 := Nat.mul_le_mul_right _ h64
  omega
theorem txt_len {l : List Dir} (h : Sh 4096 l) (hm : l.length ≤ 64 ∧ ∀ x ∈ l, x.2.length ≤ 64) : (txtL l).length ≤ 1099511627776 := by
  cases l with
  | nil => simp [txtL]
  | cons d l =>
    unfold txtL
    rw [List.length_append]
    have h1 := dirT_len (h d (by simp)) (hm.2 d (by simp))
    have h2 := flatMap_len (f := fun x : Dir => [59, 32] ++ dirT x) (k := 266306) (l := l) fun x hx => by
      have := dirT_len (h x (by simp [hx])) (hm.2 x (by simp [hx]))
      rw [List.length_append]; simp only [List.length_cons, List.length_nil]; omega
    have h3 := hm.1
    rw [List.length_cons] at h3
    have h4 : l.length * 266306 ≤ 63 * 266306 := Nat.mul_le_mul_right _ (by omega)
    omega
theorem small_of {l : List Dir} (h : Sh 4096 l) (hm : l.length ≤ 64 ∧ ∀ x ∈ l, x.2.length ≤ 64) : Small l := fun x hx => by
  obtain ⟨h1, h2⟩ := h x hx
  have := hm.2 x hx
  exact ⟨by omega, by omega, fun v hv => by have := h2 v hv; omega⟩
end Go.Proofs.YtempmmkdppelaaaGreatDoor
/-
  The walk of CspBack.
-/
namespace Go.Proofs.YtempmmkdppelaaaGreatDoor
open Go.RowKit
theorem same_self (rep : Bool) (q1 q2 : Option Addr) (k1 k2 : Nat) (l : List Dir) (m : Mod l) (w : World) (ha : Dirs w (.slice q1 l.length k1) l) (hb : Dirs w (.slice q2 l.length k2) l) :
    Calls Tryz.prog 19 #[.agg #[.slice q1 l.length k1, .bool rep], .agg #[.slice q2 l.length k2, .bool rep]] w fun e w' => e = .returned (.bool true) ∧ Below w.heap.size w w' :=
  same14_is _ _ l l rep rep m m w ha hb true (by rw [sameP_rep]; simp)
theorem parse_own (s : ByteArray) (rep : Bool) (l : List Dir) (hst : parseP s = .ok l) (n : Nat) (hn : l.length = n) (hm : s.size ≤ 281474976710656) (w : World) :
    Calls Tryz.prog 10 #[.string s, .bool rep] w fun e w' => (∃ q c rs, e = .returned (.tuple #[.agg #[.slice q n c, .bool rep], .int .i64 0]) ∧ OwnD w' w.heap.size (.slice q n c) rs ∧ rs.map RD.dir = l) ∧ Below w.heap.size w w' := by
  refine (parse_is s rep hm w).mono ?_
  rintro e w' ⟨h, hb⟩
  refine ⟨?_, hb⟩
  rw [hst] at h
  obtain ⟨v, rs, he, ho, hl, _⟩ := h
  obtain ⟨q, c, rfl⟩ : ∃ q c, v = .slice q rs.length c := own_any ho.row
  have hrn : rs.length = n := by rw [← hn, hl, List.length_map]
  rw [hrn] at he ho
  exact ⟨q, c, rs, he, ho, hl.symm⟩
theorem ownD_under {W : World} {D : Nat} {v : Value} {rs : List RD} (h : OwnD W D v rs) {p : Addr} (hp : p.block < D) (u : Value) : OwnD (W.setCell p u) D v rs :=
  ⟨own_set_under h.row hp u, fun r hr => own_set_under (h.vals r hr) hp u⟩
theorem more_list (t n m : ByteArray) : (t ++ ⟨#[59, 32]⟩ ++ n ++ ⟨#[32]⟩ ++ m : ByteArray).data.toList = t.data.toList ++ 59 :: (32 :: (n.data.toList ++ 32 :: m.data.toList)) := by
  simp [ByteArray.data_append]
set_option maxHeartbeats 2000000 in
set_option maxRecDepth 100000 in
theorem CspBack_std (s : ByteArray) (rep : Bool) (m : ByteArray) (hab : s.size + m.size ≤ 1048576) (w : World) (hM : ML w) :
    Calls Tryz.prog 5 #[.string s, .bool rep, .string m] w fun e w' => e = .returned (.bool true) ∧ Below w.heap.size w w' := by
  have HL := Lib.hid (lives_is w hM)
  clear hM
  obtain ⟨st, hst⟩ : ∃ st, parseP s = st := ⟨_, rfl⟩
  have HP := Lib.hid (fun W : World => parse_dirs s rep st hst (by omega) W)
  cases st with
  | error c =>
    have hc := parse_err hst
    have g1 : ((c : Int) != 0) = true := by rw [bne_iff_ne]; omega
    have HP2 := Lib.hid (show ∀ W : World, Calls Tryz.prog 10 #[.string s, .bool rep] W fun e w' => (∃ q k, e = .returned (.tuple #[.agg #[.slice q 0 k, .bool false], .int .i64 c])) ∧ Below W.heap.size W w' from fun W => (HP.out W).mono fun e w' ⟨⟨q, k, h1, h2⟩, h3⟩ => ⟨⟨q, k, h1⟩, h3⟩)
    clear HP hst hc
    go_enter Tryz.func5, Tryz.ntmps5
    go_wp2_with (go_at_call 18; refine HL.out.mono ?_; rintro e w1 ⟨rfl, hb1⟩; have HB1 := Lib.hid hb1; clear hb1)
    refine (HP2.out _).mono ?_
    rintro e w2 ⟨⟨q, k, rfl⟩, hb2⟩
    have HB2 := Lib.hid (HB1.out.trans (hb2.mono HB1.out.size))
    have HX2 := Lib.hid (Has.new w2 (.cells #[.slice q 0 k, .bool false] 25))
    have x0 := HX2.out.cell 0 rfl
    clear hb2 HB1
    go_wp2_with fail
    go_ret
    exact ⟨rfl, HB2.out.alloc HB2.out.size _⟩
  | ok l =>
    have hok := parseP_ok hst
    have hsh := (parseP_sh hst).2
    have hmo := parseP_mod hst
    have hmod := mod_of hmo
    have hsm := small_of hsh hmo
    have htl := txt_len hsh hmo
    have h64 := hmo.1
    obtain ⟨t, ht⟩ : ∃ t : ByteArray, t = ⟨(txtL l).toArray⟩ := ⟨_, rfl⟩
    have htt : t.data.toList = txtL l := by rw [ht]
    have HTX := Lib.hid (show ∀ (q : Option Addr) (k : Nat) (W : World), Dirs W (.slice q l.length k) l → Calls Tryz.prog 14 #[.agg #[.slice q l.length k, .bool rep]] W fun e w' => e = .returned (.tuple #[.string t, .int .i64 0]) ∧ Below W.heap.size W w' from fun q k W h => ht ▸ text_is _ l rep (txtL l) 0 (.inl ⟨hok, rfl, rfl⟩) htl (by omega) hsm W h)
    have HCK := Lib.hid (fun (q : Option Addr) (k : Nat) (W : World) (h : Dirs W (.slice q l.length k) l) => check_is _ l rep 0 (.inl ⟨hok, rfl⟩) (by omega) hsm W h)
    have HSM := Lib.hid (fun (q1 q2 : Option Addr) (k1 k2 : Nat) (W : World) (h1 : Dirs W (.slice q1 l.length k1) l) (h2 : Dirs W (.slice q2 l.length k2) l) => same_self rep q1 q2 k1 k2 l hmod W h1 h2)
    have hts : t.size ≤ 1099511627776 := by rw [← Ks.len_list, htt]; exact htl
    have HP2 := Lib.hid (fun (h : t.size ≤ 4096) (W : World) => parse_dirs t rep (.ok l) (back_text hok htt h) (by omega) W)
    have HOK := Lib.hid (And.intro hok htt)
    have HSH := Lib.hid hsh
    simp only [paL, paR, paC] at HP HP2
    clear hst hok hsh hmo hmod hsm htl ht htt
    obtain ⟨n, hn⟩ : ∃ n, l.length = n := ⟨_, rfl⟩
    rw [hn] at HP HTX HCK HSM HP2 h64
    have HN := Lib.hid hn
    clear hn
    go_enter Tryz.func5, Tryz.ntmps5
    go_wp2_with (go_at_call 18; refine HL.out.mono ?_; rintro e w1 ⟨rfl, hb1⟩; have HB1 := Lib.hid hb1; clear hb1)
    refine (HP.out _).mono ?_
    rintro e w2 ⟨⟨q, k, rfl, hd⟩, hb2⟩
    have HB2 := Lib.hid ((HB1.out.trans (hb2.mono HB1.out.size)).alloc (Nat.le_trans HB1.out.size hb2.size) (.cells #[.slice q n k, .bool rep] 25))
    have HX2 := Lib.hid (Has.new w2 (.cells #[.slice q n k, .bool rep] 25))
    have HD2 := Lib.hid (hd.to (bnew w2 (.cells #[.slice q n k, .bool rep] 25)))
    have x0 := HX2.out.cell 0 rfl
    have x1 := HX2.out.cell 1 rfl
    clear hb2 HB1 hd HP
    go_wp2_with fail
    refine (HTX.out q k _ HD2.out).mono ?_
    rintro e w3 ⟨rfl, hb3⟩
    have HB3 := Lib.hid (HB2.out.trans (hb3.mono HB2.out.size))
    have HX3 := Lib.hid (HX2.out.to hb3)
    have HD3 := Lib.hid (HD2.out.to hb3)
    clear x0 x1 hb3 HB2 HX2 HD2
    have x0 := HX3.out.cell 0 rfl
    have x1 := HX3.out.cell 1 rfl
    go_wp2_with fail
    refine (HCK.out q k _ HD3.out).mono ?_
    rintro e w4 ⟨rfl, hb4⟩
    have HB4 := Lib.hid (HB3.out.trans (hb4.mono HB3.out.size))
    have HX4 := Lib.hid (HX3.out.to hb4)
    have HD4 := Lib.hid (HD3.out.to hb4)
    clear x0 x1 hb4 HB3 HX3 HD3
    have x0 := HX4.out.cell 0 rfl
    have x1 := HX4.out.cell 1 rfl
    have gr : (rep != rep) = false := by simp
    by_cases h4 : t.size ≤ 4096
    · have g4 : decide ((4096 : Int) < (t.size : Int)) = false := decide_eq_false (by omega)
      have HP3 := Lib.hid (HP2.out h4)
      clear HP2
      go_wp2_with fail
      refine (HP3.out _).mono ?_
      rintro e w5 ⟨⟨q2, k2, rfl, hd2⟩, hb5⟩
      have HB5 := Lib.hid ((HB4.out.trans (hb5.mono HB4.out.size)).alloc (Nat.le_trans HB4.out.size hb5.size) (.cells #[.slice q2 n k2, .bool rep] 25))
      have HX5 := Lib.hid ((HX4.out.to hb5).alloc (.cells #[.slice q2 n k2, .bool rep] 25))
      have HQ5 := Lib.hid (Has.new w5 (.cells #[.slice q2 n k2, .bool rep] 25))
      have HD5 := Lib.hid ((HD4.out.to hb5).to (bnew w5 (.cells #[.slice q2 n k2, .bool rep] 25)))
      have HE5 := Lib.hid (hd2.to (bnew w5 (.cells #[.slice q2 n k2, .bool rep] 25)))
      have HDB := Lib.hid (HD4.out.to hb5)
      have HBB := Lib.hid (bnew w5 (.cells #[.slice q2 n k2, .bool rep] 25))
      have HLT := Lib.hid (show w2.heap.size < w5.heap.size from Nat.lt_of_lt_of_le HX4.out.lt hb5.size)
      have HLW := Lib.hid (show w.heap.size ≤ w5.heap.size from Nat.le_trans HB4.out.size hb5.size)
      clear x0 x1 hb5 hd2 HB4 HX4 HD4 HP3
      have x0 := HX5.out.cell 0 rfl
      have x1 := HX5.out.cell 1 rfl
      have y0 := HQ5.out.cell 0 rfl
      have y1 := HQ5.out.cell 1 rfl
      go_wp2_with fail
      refine (HSM.out q q2 k k2 _ HD5.out HE5.out).mono ?_
      rintro e w6 ⟨rfl, hb6⟩
      have HB6 := Lib.hid (HB5.out.trans (hb6.mono HB5.out.size))
      have HX6 := Lib.hid (HX5.out.to hb6)
      have HQ6 := Lib.hid (HQ5.out.to hb6)
      have HD6 := Lib.hid (HD5.out.to hb6)
      have HBC := Lib.hid (bel2 HBB.out hb6)
      clear HBB
      clear x0 x1 y0 y1 hb6 HB5 HX5 HQ5 HD5 HE5
      have x0 := HX6.out.cell 0 rfl
      have x1 := HX6.out.cell 1 rfl
      go_wp2_with fail
      clear HTX HCK HL
      by_cases hn0 : n = 0
      · have gn : ((n : Int) == 0) = true := beq_iff_eq.2 (by omega)
        clear hn0
        go_loopw [13] (fun i wr => ∃ k : Nat, k ≤ m.size ∧ i = .int .i64 k ∧ wr = w6) (fun i _ => m.size - (intOf i).toNat)
        case atStart => exact ⟨0, by omega, rfl, rfl⟩
        case round =>
          obtain ⟨j, hj, rfl, rfl⟩ := hrel
          by_cases hlt : j < m.size
          · have i1 : (j : Int) < (m.size : Int) := by omega
            by_cases h59 : m[j] = 59
            · have g := byte_eq 59 rfl h59
              go_wp2_with fail
              go_ret
              exact ⟨rfl, HB6.out⟩
            · have g := byte_ne 59 rfl h59
              go_wp2_with fail
              go_ret
              exact ⟨rfl, HB6.out⟩
          · go_wp2_with fail
            go_ret
            exact ⟨rfl, HB6.out⟩
      · have gn : ((n : Int) == 0) = false := beq_eq_false_iff_ne.2 (by omega)
        go_loopw [13] (fun i wr => ∃ k : Nat, k ≤ m.size ∧ i = .int .i64 k ∧ Hid ((59 : UInt8) ∉ m.data.toList.take k) ∧ wr = w6) (fun i _ => m.size - (intOf i).toNat)
        case atStart => exact ⟨0, by omega, rfl, Lib.hid (by simp), rfl⟩
        case round =>
          obtain ⟨j, hj, rfl, HE, rfl⟩ := hrel
          by_cases hlt : j < m.size
          · have i1 : (j : Int) < (m.size : Int) := by omega
            have hbj : m.data.toList[j]? = some m[j] := by rw [List.getElem?_eq_getElem (by rw [Ks.len_list]; exact hlt)]; rfl
            by_cases h59 : m[j] = 59
            · have g := byte_eq 59 rfl h59
              go_wp2_with fail
              go_ret
              exact ⟨rfl, HB6.out⟩
            · have g := byte_ne 59 rfl h59
              have HT := Lib.hid (notin_take HE.out hbj h59)
              go_wp2_with fail
              go_roundw
              case rel => exact ⟨j + 1, by omega, by go_num, HT, trivial⟩
              case measure => simp [intOf]; omega
          · have HNM := Lib.hid (show (59 : UInt8) ∉ m.data.toList from by have := HE.out; rwa [List.take_of_length_le (by rw [Ks.len_list]; omega)] at this)
            clear HE
            have hj2 : j = m.size := by omega
            subst hj2
            obtain ⟨p', c', ep, _, hA⟩ := HD6.out
            simp only [Value.slice.injEq] at ep
            obtain ⟨rfl, -, rfl⟩ := ep
            cases l with
            | nil => exact absurd HN.out.symm hn0
            | cons d l' =>
              obtain ⟨g, o, vx, rfl, hg, hx, hy, hz⟩ := hA 0 d rfl
              simp only [Nat.zero_mul, Nat.add_zero] at hx hy
              have i4 : (0 : Int) < (n : Int) := by omega
              have i4' : 0 < n := by omega
              have hds := (HSH.out d (by simp)).1
              have hls := more_list t d.1 m
              have hU := fun (h : (t ++ ⟨#[59, 32]⟩ ++ d.1 ++ ⟨#[32]⟩ ++ m : ByteArray).size ≤ 4096) (W : World) => parse_own _ rep (d :: l') (back_more HOK.out.1 HOK.out.2 HNM.out hls h) n HN.out (by omega) W
              have HPU := Lib.hid hU
              clear hU
              obtain ⟨dn, dv⟩ := d
              simp only at hx hds HPU
              have j1 : ¬ 9223372036854775807 < t.size + 2 := by omega
              have j2 : ¬ 9223372036854775807 < t.size + 2 + dn.size := by omega
              have j3 : ¬ 9223372036854775807 < t.size + 2 + dn.size + 1 := by omega
              have j4 : ¬ 9223372036854775807 < t.size + 2 + dn.size + 1 + m.size := by omega
              have hsz : (t ++ ⟨#[59, 32]⟩ ++ dn ++ ⟨#[32]⟩ ++ m : ByteArray).size = t.size + 2 + dn.size + 1 + m.size := by simp only [ByteArray.size_append]; rfl
              rw [hsz] at HPU
              clear hA hls hsz hy hz HN HSH HNM HOK
              by_cases hu : t.size + 2 + dn.size + 1 + m.size ≤ 4096
              · have HPV := Lib.hid (HPU.out hu)
                have g5 : decide ((4096 : Int) < ((t.size : Int) + 2 + (dn.size : Int) + 1 + (m.size : Int))) = false := decide_eq_false (by omega)
                clear HPU
                go_wp2_with fail
                refine (HPV.out _).mono ?_
                rintro e w7 ⟨⟨q3, k3, rs, rfl, ho3, hrs⟩, hb7⟩
                have HB7 := Lib.hid (((HB6.out.trans (hb7.mono HB6.out.size)).setCell (p := ⟨w5.heap.size, 0, none⟩) HLW.out (.slice q3 n k3)).setCell (p := ⟨w5.heap.size, 1, none⟩) HLW.out (.bool rep))
                have hqk := HQ6.out.to hb7
                have HX7 := Lib.hid (((HX6.out.to hb7).far (p := ⟨w5.heap.size, 0, none⟩) (Nat.ne_of_lt HLT.out) (.slice q3 n k3)).far (p := ⟨w5.heap.size, 1, none⟩) (Nat.ne_of_lt HLT.out) (.bool rep))
                have HQ7 := Lib.hid (show Has ((w7.setCell ⟨w5.heap.size, 0, none⟩ (.slice q3 n k3)).setCell ⟨w5.heap.size, 1, none⟩ (.bool rep)) w5.heap.size (.cells #[.slice q3 n k3, .bool rep] 25) from (hqk.set 0 (.slice q3 n k3)).set 1 (.bool rep))
                have hql := HQ6.out.lt
                have HD7 := Lib.hid (HDB.out.to (((HBC.out.trans (hb7.mono HBC.out.size)).setCell (p := ⟨w5.heap.size, 0, none⟩) (Nat.le_refl _) (.slice q3 n k3)).setCell (p := ⟨w5.heap.size, 1, none⟩) (Nat.le_refl _) (.bool rep)))
                have hO7 := ownD_under (ownD_under ho3 (p := ⟨w5.heap.size, 0, none⟩) hql (.slice q3 n k3)) (p := ⟨w5.heap.size, 1, none⟩) hql (.bool rep)
                have hE7 := hO7.dirs
                rw [hrs] at hE7
                have HE7 := Lib.hid hE7
                have z0 := hqk.cell 0 rfl
                have z1 := hqk.cell 1 rfl
                have f0 := hqk.free 0
                have f1 := hqk.free 1
                clear x0 x1 hb7 ho3 hrs hqk hql hO7 hE7 HB6 HX6 HQ6 HD6 HDB HBC HPV
                have x0 := HX7.out.cell 0 rfl
                have x1 := HX7.out.cell 1 rfl
                have y0 := HQ7.out.cell 0 rfl
                have y1 := HQ7.out.cell 1 rfl
                go_wp2_with fail
                refine (HSM.out _ q3 k k3 _ HD7.out HE7.out).mono ?_
                rintro e w8 ⟨rfl, hb8⟩
                have HB8 := Lib.hid (HB7.out.trans (hb8.mono HB7.out.size))
                clear hb8
                go_wp2_with fail
                go_ret
                exact ⟨rfl, HB8.out⟩
              · have g5 : decide ((4096 : Int) < ((t.size : Int) + 2 + (dn.size : Int) + 1 + (m.size : Int))) = true := decide_eq_true (by omega)
                clear HPU
                go_wp2_with fail
                go_ret
                exact ⟨rfl, HB6.out⟩
    · have g4 : decide ((4096 : Int) < (t.size : Int)) = true := decide_eq_true (by omega)
      go_wp2_with fail
      go_ret
      exact ⟨rfl, HB4.out⟩
end Go.Proofs.YtempmmkdppelaaaGreatDoor
