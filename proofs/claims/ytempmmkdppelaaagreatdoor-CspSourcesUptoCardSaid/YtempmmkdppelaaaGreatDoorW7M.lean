import Derived.Test.YtempmmkdppelaaaGreatDoorU5M
import Derived.Test.YtempmmkdppelaaaGreatDoorW4M
/-
  The walk of CspOwn.
-/
namespace Go.Proofs.YtempmmkdppelaaaGreatDoor
open Go.RowKit
theorem find_len (nm : ByteArray) {l : List Dir} (h : ∀ x ∈ l, x.2.length ≤ 1048576) : (findD nm l).1.length ≤ 1048576 := by
  unfold findD
  cases hf : l.find? (isD nm) with
  | none => simp
  | some d => exact h d (List.mem_of_find?_eq_some hf)
theorem flat_len {α β : Type} {f : α → List β} {k : Nat} : ∀ {l : List α}, (∀ x ∈ l, (f x).length ≤ k) → (l.flatMap f).length ≤ l.length * k
  | [], _ => by simp
  | x :: l, h => by
    rw [List.flatMap_cons, List.length_append, List.length_cons, Nat.add_mul, Nat.one_mul]
    have := flat_len (l := l) fun y hy => h y (by simp [hy])
    have := h x (by simp)
    omega
/-- within the bulk -/
def Bk (l : List Dir) : Prop := l.length ≤ 1048576 ∧ ∀ x ∈ l, x.1.size ≤ 1048576 ∧ x.2.length ≤ 1048576 ∧ ∀ v ∈ x.2, v.size ≤ 1048576
theorem own_txt {l : List Dir} (h : Bk l) (hok : okP l) : (txtL l).length ≤ 1099511627776 := by
  have hr : ∀ d ∈ l, d.2.length ≤ 64 := fun d hd => by
    obtain ⟨i, hi, rfl⟩ := List.getElem_of_mem hd
    have := (hok.2 i _ (getT hi)).1
    unfold rightD at this
    simp only [Bool.and_eq_true] at this
    exact of_decide_eq_true this.1.2
  have hd : ∀ d ∈ l, (dirT d).length ≤ 68157504 := fun d hd => by
    unfold dirT
    rw [List.length_append, Ks.len_list]
    have h1 := (h.2 d hd).1
    have h2 := flat_len (f := fun v : ByteArray => 32 :: v.data.toList) (k := 1048577) (l := d.2) fun v hv => by
      have := (h.2 d hd).2.2 v hv
      simp only [List.length_cons, Ks.len_list]; omega
    have h3 : d.2.length * 1048577 ≤ 64 * 1048577 := Nat.mul_le_mul_right _ (hr d hd)
    omega
  have hl := hok.1
  cases l with
  | nil => simp [txtL]
  | cons d l =>
    unfold txtL
    rw [List.length_append]
    have h1 := hd d (by simp)
    have h2 := flat_len (f := fun x : Dir => [59, 32] ++ dirT x) (k := 68157506) (l := l) fun x hx => by
      have := hd x (by simp [hx])
      rw [List.length_append]; simp only [List.length_cons, List.length_nil]; omega
    rw [List.length_cons] at hl
    have h4 : l.length * 68157506 ≤ 63 * 68157506 := Nat.mul_le_mul_right _ (by omega)
    omega
theorem bk_small {l : List Dir} (h : Bk l) : Small l := fun x hx => by
  obtain ⟨h1, h2, h3⟩ := h.2 x hx
  exact ⟨by omega, by omega, fun v hv => by have := h3 v hv; omega⟩
theorem bk_mod {l : List Dir} (h : Bk l) : Mod l := ⟨by have := h.1; omega, fun x hx => by have := (h.2 x hx).2.1; omega⟩
theorem text_any (l : List Dir) (rep : Bool) (h : Bk l) : ∃ (T : ByteArray) (r : Int), ∀ (v : Value) (w : World), Dirs w v l → Calls Tryz.prog 14 #[.agg #[v, .bool rep]] w fun e w' => e = .returned (.tuple #[.string T, .int .i64 r]) ∧ Below w.heap.size w w' := by
  by_cases hok : okP l
  · exact ⟨⟨(txtL l).toArray⟩, 0, fun v w hv => text_is v l rep (txtL l) 0 (.inl ⟨hok, rfl, rfl⟩) (own_txt h hok) (by have := h.1; omega) (bk_small h) w hv⟩
  · exact ⟨⟨#[]⟩, 20, fun v w hv => text_is v l rep [] 20 (.inr ⟨hok, rfl, rfl⟩) (by simp) (by have := h.1; omega) (bk_small h) w hv⟩
set_option maxHeartbeats 2000000 in
set_option maxRecDepth 100000 in
theorem CspOwn_std (p : Option Addr) (cap : Nat) (l : List Dir) (rep : Bool) (nm : ByteArray) (hk : Bk l) (hnm : nm.size ≤ 1048576) (w : World) (hv : Dirs w (.slice p l.length cap) l) (hM : ML w) :
    Calls Tryz.prog 7 #[.agg #[.slice p l.length cap, .bool rep], .string nm] w fun e w' => e = .returned (.bool true) ∧ Below w.heap.size w w' := by
  obtain ⟨T, r, hT⟩ := text_any l rep hk
  have HT := Lib.hid hT
  have HC := Lib.hid (fun (W : World) (h : Dirs W (.slice p l.length cap) l) => copy_is (.slice p l.length cap) l rep hk.1 (fun x hx => (hk.2 x hx).2.1) W h)
  have HF := Lib.hid (fun (q : Option Addr) (c : Nat) (W : World) (h : Dirs W (.slice q l.length c) l) => find_is (.slice q l.length c) l rep nm (by omega) (by have := hk.1; omega) (bk_small hk) W h)
  have hfl := find_len nm (l := l) (fun x hx => (hk.2 x hx).2.1)
  generalize findD nm l = fd at *
  obtain ⟨vs, fb⟩ := fd
  simp only at HF hfl
  generalize (if fb = true then nm else (⟨#[]⟩ : ByteArray)) = s0 at *
  have HSM := Lib.hid (fun (q1 q2 : Option Addr) (k1 k2 : Nat) (W : World) (h1 : Dirs W (.slice q1 l.length k1) l) (h2 : Dirs W (.slice q2 l.length k2) l) => same14_is _ _ l l rep rep (bk_mod hk) (bk_mod hk) W h1 h2 true (by rw [sameP_rep]; simp))
  have HSD := Lib.hid (fun (va vb : Value) (W : World) (h1 : Strs W va vs) (h2 : Strs W vb vs) => sameDirective_is va vb (s0, vs) (s0, vs) (by simp only; omega) (by simp only; omega) W h1 h2 true ((sameD_iff _ _).2 rfl))
  simp only at HSD
  obtain ⟨n, hn⟩ : ∃ n, l.length = n := ⟨_, rfl⟩
  obtain ⟨m, hm⟩ : ∃ m, vs.length = m := ⟨_, rfl⟩
  rw [hn] at HC HF HSM hv ⊢
  rw [hm] at HF hfl
  have HV := Lib.hid hv
  have HL := Lib.hid (lives_is (w.alloc (.cells #[.slice p n cap, .bool rep] 25)) (hM.to (bnew w _)))
  have HB0 := Lib.hid (bnew w (.cells #[.slice p n cap, .bool rep] 25))
  have HP0 := Lib.hid (Has.new w (.cells #[.slice p n cap, .bool rep] 25))
  have HMV := Lib.hid hm
  clear hT hv hM hk hn hm
  go_enter Tryz.func7, Tryz.ntmps7
  go_wp2_with (go_at_call 18; refine HL.out.mono ?_; rintro e w1 ⟨rfl, hb1⟩; have HB1 := Lib.hid (HB0.out.trans (hb1.mono HB0.out.size)); have HP1 := Lib.hid (HP0.out.to hb1); clear hb1; have x0 := HP1.out.cell 0 rfl; have x1 := HP1.out.cell 1 rfl)
  refine (HC.out _ (HV.out.to HB1.out)).mono ?_
  rintro e w2 ⟨⟨q, c, rs, rfl, ho, hrs⟩, hb2⟩
  have hd2 := ho.dirs
  rw [hrs] at hd2
  have HB3 := Lib.hid ((HB1.out.trans (hb2.mono HB1.out.size)).alloc (Nat.le_trans HB1.out.size hb2.size) (.cells #[.slice q n c, .bool rep] 25))
  have HP3 := Lib.hid ((HP1.out.to hb2).alloc (.cells #[.slice q n c, .bool rep] 25))
  have HG3 := Lib.hid (Has.new w2 (.cells #[.slice q n c, .bool rep] 25))
  have HD3 := Lib.hid (hd2.to (bnew w2 (.cells #[.slice q n c, .bool rep] 25)))
  obtain ⟨W3, hW3⟩ : ∃ W3, w2.alloc (.cells #[.slice q n c, .bool rep] 25) = W3 := ⟨_, rfl⟩
  have hs3 : W3.heap.size = w2.heap.size + 1 := by rw [← hW3]; simp
  rw [hW3] at HB3 HP3 HG3 HD3
  clear x0 x1 hb2 hd2 ho hrs HB1 HP1 HL HB0 HP0
  clear rs
  have x0 := HG3.out.cell 0 rfl
  have x1 := HG3.out.cell 1 rfl
  go_wp2_with fail
  refine (HF.out q c _ HD3.out).mono ?_
  rintro e w3 ⟨⟨q3, c3, rfl, ho3⟩, hb3⟩
  have HB4 := Lib.hid (hb3.alloc hb3.size (.cells #[.string s0, .slice q3 m c3] 35))
  have HF4 := Lib.hid (Has.new w3 (.cells #[.string s0, .slice q3 m c3] 35))
  have HO4 := Lib.hid (show (w3.alloc (.cells #[.string s0, .slice q3 m c3] 35)).ownsRow W3.heap.size 9 1 (.slice q3 m c3) m (vs.map Value.string) from by have h := own_to ho3 (bnew w3 (.cells #[.string s0, .slice q3 m c3] 35)); rw [HMV.out] at h; exact h)
  have HLT := Lib.hid (fun k (h : (Value.slice q3 m c3).ownBlock = some k) => (ho3.lt k h).2)
  have hs34 : W3.heap.size ≤ w3.heap.size := hb3.size
  clear hb3 ho3 x0 x1
  have y1 := HF4.out.cell 1 rfl
  go_wp2_with fail
  clear y1
  go_loopw [30] (fun i wr => ∃ k : Nat, k ≤ m ∧ i = .int .i64 k ∧ Hid (Below W3.heap.size W3 wr) ∧ Hid (Has wr w3.heap.size (.cells #[.string s0, .slice q3 m c3] 35)) ∧ Hid (∃ xs, wr.ownsRow W3.heap.size 9 1 (.slice q3 m c3) m xs)) (fun i _ => m - (intOf i).toNat)
  case atStart => exact ⟨0, by omega, rfl, HB4, HF4, Lib.hid ⟨_, HO4.out⟩⟩
  case round =>
    obtain ⟨k, hk, rfl, HB5, HF5, HO5⟩ := hrel
    by_cases hlt : k < m
    · have i1 : (k : Int) < (m : Int) := by omega
      have y1 := HF5.out.cell 1 rfl
      obtain ⟨xs, hxs⟩ := HO5.out
      have hxl : xs.length = m * 1 := hxs.1
      obtain ⟨A, rfl⟩ : ∃ A, q3 = some ⟨A, 0, none⟩ := by
        rcases hxs.2 with ⟨_, h0⟩ | ⟨A, cp, cur, e, _⟩
        · omega
        · simp only [Value.slice.injEq] at e; exact ⟨A, e.1⟩
      have hAF := HLT.out A rfl
      have hAD : W3.heap.size ≤ A := (hxs.lt A rfl).1
      have z0 : wr.cell? ⟨A, k, none⟩ = some (xs[k]'(by omega)) := by rw [hxs.cellAt k (by omega)]; exact getT _
      have z1 := hxs.frozenAt k
      have hst := (hxs.stored k (.string ⟨#[115, 112, 111, 105, 108, 116]⟩)).1
      have HN1 := Lib.hid (HB5.out.setCell (p := ⟨A, k, none⟩) hAD (.string ⟨#[115, 112, 111, 105, 108, 116]⟩))
      have HN2 := Lib.hid (HF5.out.far (p := ⟨A, k, none⟩) (Nat.ne_of_gt hAF) (.string ⟨#[115, 112, 111, 105, 108, 116]⟩))
      have HN3 := Lib.hid hst
      clear hxs hst HO5
      go_wp2_with fail
      go_roundw
      case rel => exact ⟨k + 1, by omega, by go_num, HN1, HN2, Lib.hid ⟨_, HN3.out⟩⟩
      case measure => simp [intOf]; omega
    · have HP5 := Lib.hid (HP3.out.to HB5.out)
      have HG5 := Lib.hid (HG3.out.to HB5.out)
      have HD5 := Lib.hid (HD3.out.to HB5.out)
      have HBr := Lib.hid (HB3.out.trans (HB5.out.mono HB3.out.size))
      clear HO5 HF5 HB5 HLT HB4 HF4 HO4 HP3 HG3 HD3
      have x0 := HG5.out.cell 0 rfl
      have x1 := HG5.out.cell 1 rfl
      go_wp2_with fail
      refine (HT.out (.slice q n c) _ HD5.out).mono ?_
      rintro e w5 ⟨rfl, hb5⟩
      have HP6 := Lib.hid (HP5.out.to hb5)
      have HG6 := Lib.hid (HG5.out.to hb5)
      have HD6 := Lib.hid (HD5.out.to hb5)
      have HB6 := Lib.hid (HBr.out.trans (hb5.mono HBr.out.size))
      clear hb5 x0 x1 HP5 HG5 HD5 HBr
      have x0 := HP6.out.cell 0 rfl
      have x1 := HP6.out.cell 1 rfl
      go_wp2_with fail
      refine (HT.out (.slice p n cap) _ (HV.out.to HB6.out)).mono ?_
      rintro e w6 ⟨rfl, hb6⟩
      have HP7 := Lib.hid (HP6.out.to hb6)
      have HG7 := Lib.hid (HG6.out.to hb6)
      have HD7 := Lib.hid (HD6.out.to hb6)
      have HB7 := Lib.hid (HB6.out.trans (hb6.mono HB6.out.size))
      clear hb6 x0 x1 HP6 HG6 HD6 HB6
      have x0 := HP7.out.cell 0 rfl
      have x1 := HP7.out.cell 1 rfl
      go_wp2_with fail
      refine (HF.out p cap _ (HV.out.to HB7.out)).mono ?_
      rintro e w7 ⟨⟨q7, c7, rfl, ho7⟩, hb7⟩
      have HP8 := Lib.hid ((HP7.out.to hb7).alloc (.cells #[.string s0, .slice q7 m c7] 35))
      have HG8 := Lib.hid ((HG7.out.to hb7).alloc (.cells #[.string s0, .slice q7 m c7] 35))
      have HD8 := Lib.hid ((HD7.out.to hb7).to (bnew w7 (.cells #[.string s0, .slice q7 m c7] 35)))
      have HB8 := Lib.hid ((HB7.out.trans (hb7.mono HB7.out.size)).alloc (Nat.le_trans HB7.out.size hb7.size) (.cells #[.string s0, .slice q7 m c7] 35))
      have HE8 := Lib.hid (Has.new w7 (.cells #[.string s0, .slice q7 m c7] 35))
      have HS8 := Lib.hid (Strs.to (strs_own ho7) (bnew w7 (.cells #[.string s0, .slice q7 m c7] 35)))
      clear hb7 ho7 x0 x1 HP7 HG7 HD7 HB7
      have x0 := HG8.out.cell 0 rfl
      have x1 := HG8.out.cell 1 rfl
      go_wp2_with fail
      refine (HF.out q c _ HD8.out).mono ?_
      rintro e w8 ⟨⟨q8, c8, rfl, ho8⟩, hb8⟩
      have HP9 := Lib.hid ((HP8.out.to hb8).alloc (.cells #[.string s0, .slice q8 m c8] 35))
      have HG9 := Lib.hid ((HG8.out.to hb8).alloc (.cells #[.string s0, .slice q8 m c8] 35))
      have HD9 := Lib.hid ((HD8.out.to hb8).to (bnew w8 (.cells #[.string s0, .slice q8 m c8] 35)))
      have HB9 := Lib.hid ((HB8.out.trans (hb8.mono HB8.out.size)).alloc (Nat.le_trans HB8.out.size hb8.size) (.cells #[.string s0, .slice q8 m c8] 35))
      have HE9 := Lib.hid ((HE8.out.to hb8).alloc (.cells #[.string s0, .slice q8 m c8] 35))
      have HS9 := Lib.hid ((HS8.out.to hb8).to (bnew w8 (.cells #[.string s0, .slice q8 m c8] 35)))
      have HH9 := Lib.hid (Has.new w8 (.cells #[.string s0, .slice q8 m c8] 35))
      have HR9 := Lib.hid (Strs.to (strs_own ho8) (bnew w8 (.cells #[.string s0, .slice q8 m c8] 35)))
      clear hb8 ho8 x0 x1 HP8 HG8 HD8 HB8 HE8 HS8
      have x0 := HG9.out.cell 0 rfl
      have x1 := HG9.out.cell 1 rfl
      have y0 := HP9.out.cell 0 rfl
      have y1 := HP9.out.cell 1 rfl
      have gT : (T.toList == T.toList) = true := by simp
      have gr : (r == r) = true := by simp
      have gf : (fb == fb) = true := by simp
      go_wp2_with fail
      refine (HSM.out q p c cap _ HD9.out (HV.out.to HB9.out)).mono ?_
      rintro e w9 ⟨rfl, hb9⟩
      have HBx := Lib.hid (HB9.out.trans (hb9.mono HB9.out.size))
      have HE10 := Lib.hid (HE9.out.to hb9)
      have HH10 := Lib.hid (HH9.out.to hb9)
      have HS10 := Lib.hid (HS9.out.to hb9)
      have HR10 := Lib.hid (HR9.out.to hb9)
      clear hb9 x0 x1 y0 y1 HP9 HG9 HD9 HB9 HE9 HS9 HH9 HR9
      have x0 := HE10.out.cell 0 rfl
      have x1 := HE10.out.cell 1 rfl
      have y0 := HH10.out.cell 0 rfl
      have y1 := HH10.out.cell 1 rfl
      go_wp2_with (go_at_call 23; refine (HSD.out _ _ _ HS10.out HR10.out).mono ?_; rintro e w10 ⟨rfl, hb10⟩)
      go_ret
      exact ⟨rfl, HBx.out.trans (hb10.mono HBx.out.size)⟩
end Go.Proofs.YtempmmkdppelaaaGreatDoor
/-
  A list of texts, a policy, that came in.
-/
namespace Go.Proofs.YtempmmkdppelaaaGreatDoor
open Go.ChangeShapes Go.WideShapes Go.ChangeAt Go.RowKit Go.Deep
section
variable {H : Type} {enc : TypeId × Value → H} {W : World}
abbrev TR (enc : TypeId × Value → H) (W : World) (fuel : Nat) (t : TypeId) (cs : List Value) (z : DataW H × List MemPlace) : Prop := DataW.trod enc Tryz.prog W 0 (fun _ => true) true fuel t cs = some z
theorem two_fields {t n : Nat} {f0 f1 : Field} {c0 c1 : Value} {z : DataW H × List MemPlace} (he : Tryz.prog.underlying t = some (.struct #[f0, f1])) (hone : oneCellFields Tryz.prog #[f0, f1] = true) (h : TR enc W n t [c0, c1] z) :
    ∃ n' y0 y1, TR enc W n' f0.type [c0] y0 ∧ TR enc W n' f1.type [c1] y1 ∧ z.1 = .agg [y0.1, y1.1] := by
  obtain ⟨xs, n', _, hxs, _, hlen, hg⟩ := DataW.trod_struct he h
  have g0 := hg 0 _ rfl
  have g1 := hg 1 _ rfl
  obtain ⟨o0, k0⟩ := hone_of hone 0 _ rfl
  obtain ⟨o1, k1⟩ := hone_of hone 1 _ rfl
  rw [o0, k0] at g0
  rw [o1, k1] at g1
  match xs, hlen with
  | [y0, y1], _ => exact ⟨n', y0, y1, g0, g1, by rw [hxs]; rfl⟩
theorem spot_none {b off : Nat} {spot : Option Nat} {v : Value} (h : W.cell? ⟨b, off, spot⟩ = some v) : spot = none := World.cell?_spot h
theorem strs_open {n : Nat} {c : Value} {z : DataW H × List MemPlace} (h : TR enc W n 22 [c] z) :
    ∃ (q : Option Addr) (l : List ByteArray) (cap : Nat), c = .slice q l.length cap ∧ Strs W (.slice q l.length cap) l ∧ (Rows.uptoBulk z.1 ≤ 1048576 → l.length ≤ 1048576 ∧ ∀ x ∈ l, x.size ≤ 1048576) := by
  rcases open_slice1 Tryz.underlying22 (by kernel_rfl) h with ⟨hcs, _⟩ | ⟨a, len, cap, m, n', V, D, Pl, hcs, _, hl, _, hm, hx, hi⟩
  · simp only [List.cons.injEq, and_true] at hcs
    exact ⟨none, [], 0, hcs, ⟨none, 0, rfl, fun i x hi => by simp at hi⟩, fun _ => ⟨by simp, by simp⟩⟩
  · simp only [List.cons.injEq, and_true] at hcs
    have hm' : m = cap := by simpa using hm
    have each : ∀ i, i < len → ∃ s : ByteArray, V i = .string s ∧ D i = .lit (.string s.data.toList) := fun i hil => by
      obtain ⟨_, ht⟩ := hi i (by omega)
      obtain ⟨s, h1, h2, _⟩ := DataW.trod_string Tryz.underlying9 ht
      simp only [List.cons.injEq, and_true] at h1
      simp only [Prod.mk.injEq] at h2
      exact ⟨s, h1, h2.1⟩
    obtain ⟨S, hS⟩ : ∃ S : Nat → ByteArray, ∀ i, i < len → V i = .string (S i) ∧ D i = .lit (.string (S i).data.toList) :=
      ⟨fun i => if hil : i < len then Classical.choose (each i hil) else ⟨#[]⟩, fun i hil => by simp only [dif_pos hil]; exact Classical.choose_spec (each i hil)⟩
    refine ⟨some a, (List.range len).map S, cap, by rw [hcs]; simp, ⟨some a, cap, rfl, fun i x hx' => ?_⟩, fun hb => ?_⟩
    · rw [List.getElem?_map] at hx'
      obtain ⟨j, hj, rfl⟩ := Option.map_eq_some_iff.1 hx'
      obtain ⟨hil, rfl⟩ := List.getElem?_eq_some_iff.1 hj
      rw [List.length_range] at hil
      rw [List.getElem_range]
      have hci := (hi i (by omega)).1
      have hc0 := (hi 0 (by omega)).1
      obtain ⟨b, off, spot⟩ := a
      have hsp : spot = none := by
        simp only [Addr.add] at hc0
        exact spot_none hc0
      subst hsp
      rw [(hS i hil).1, Addr.add_lit] at hci
      obtain ⟨o, ho, _⟩ := cells_of_cell hci
      exact ⟨b, off, rfl, (Array.getElem?_eq_some_iff.1 ho).1, hci⟩
    · simp only [hx] at hb
      rw [Rows.uptoBulk] at hb
      have h1 := bulk_len ((List.range len).map D)
      rw [List.length_map, List.length_range] at h1
      refine ⟨by rw [List.length_map, List.length_range]; omega, fun x hx' => ?_⟩
      obtain ⟨i, hir, rfl⟩ := List.mem_map.1 hx'
      have hil := List.mem_range.1 hir
      have h2 := bulk_mem (List.mem_map.2 ⟨i, hir, rfl⟩ : D i ∈ (List.range len).map D)
      rw [(hS i hil).2] at h2
      simp only [Rows.uptoBulk] at h2
      rw [Ks.len_list] at h2
      omega
theorem cells35 : Tryz.prog.cellsOf 35 = 2 := by kernel_rfl
theorem dirs_open {n : Nat} {c : Value} {z : DataW H × List MemPlace} (h : TR enc W n 23 [c] z) :
    ∃ (q : Option Addr) (l : List Dir) (cap : Nat), c = .slice q l.length cap ∧ Dirs W (.slice q l.length cap) l ∧ (Rows.uptoBulk z.1 ≤ 1048576 → Bk l) := by
  rcases open_slice Tryz.underlying23 h with ⟨hcs, _⟩ | ⟨a, len, cap, m, n', D, Pl, hcs, _, hl, _, hm, hx, hi⟩
  · simp only [List.cons.injEq, and_true] at hcs
    exact ⟨none, [], 0, hcs, ⟨none, 0, rfl, Nat.le_refl _, fun i x hi => by simp at hi⟩, fun _ => ⟨by simp, by simp⟩⟩
  · simp only [List.cons.injEq, and_true] at hcs
    have hm' : m = cap := by simpa using hm
    have each : ∀ i, i < len → ∃ d : Dir, ∃ vs, W.cell? (a.add (i * 2)) = some (.string d.1) ∧ W.cell? ((a.add (i * 2)).add 1) = some vs ∧ Strs W vs d.2 ∧ (Rows.uptoBulk (D i) ≤ 1048576 → d.1.size ≤ 1048576 ∧ d.2.length ≤ 1048576 ∧ ∀ v ∈ d.2, v.size ≤ 1048576) := fun i hil => by
      obtain ⟨cs', hc, ht⟩ := hi i (by omega)
      rw [cells35] at hc
      obtain ⟨_, hcl, hat⟩ := World.cells?_some hc
      match cs', hcl with
      | [c0, c1], _ =>
        obtain ⟨n2, y0, y1, g0, g1, hz⟩ := two_fields Tryz.underlying35 (by kernel_rfl) ht
        obtain ⟨s, h1, h2, _⟩ := DataW.trod_string Tryz.underlying9 g0
        simp only [List.cons.injEq, and_true] at h1
        obtain ⟨q, l, cap', e1, hst, hbk⟩ := strs_open g1
        subst h1
        subst e1
        have a0 := hat 0 (by omega)
        have a1 := hat 1 (by omega)
        refine ⟨(s, l), _, ?_, a1, hst, fun hb => ?_⟩
        · rw [show (a.add (i * 2)).add 0 = a.add (i * 2) from rfl] at a0; exact a0
        · have hz' : D i = .agg [y0.1, y1.1] := hz
          rw [hz', h2] at hb
          simp only [Rows.uptoBulk, Rows.uptoBulkAll] at hb
          rw [Ks.len_list] at hb
          obtain ⟨b1, b2⟩ := hbk (by omega)
          exact ⟨by simp only; omega, b1, b2⟩
    have each' : ∀ i, ∃ d : Dir, i < len → ∃ vs, W.cell? (a.add (i * 2)) = some (.string d.1) ∧ W.cell? ((a.add (i * 2)).add 1) = some vs ∧ Strs W vs d.2 ∧ (Rows.uptoBulk (D i) ≤ 1048576 → d.1.size ≤ 1048576 ∧ d.2.length ≤ 1048576 ∧ ∀ v ∈ d.2, v.size ≤ 1048576) := fun i => by
      by_cases hil : i < len
      · obtain ⟨d, hd⟩ := each i hil
        exact ⟨d, fun _ => hd⟩
      · exact ⟨(⟨#[]⟩, []), fun h => absurd h hil⟩
    obtain ⟨S, hS⟩ := Classical.skolem.1 each'
    refine ⟨some a, (List.range len).map S, cap, by rw [hcs]; simp, ⟨some a, cap, rfl, by simpa using hl, fun i x hx' => ?_⟩, fun hb => ?_⟩
    · rw [List.getElem?_map] at hx'
      obtain ⟨j, hj, rfl⟩ := Option.map_eq_some_iff.1 hx'
      obtain ⟨hil, rfl⟩ := List.getElem?_eq_some_iff.1 hj
      rw [List.length_range] at hil
      rw [List.getElem_range]
      obtain ⟨vs, h1, h2, h3, _⟩ := hS i hil
      obtain ⟨_, h0, _⟩ := hS 0 (by omega)
      obtain ⟨b, off, spot⟩ := a
      have hsp : spot = none := by
        simp only [Addr.add] at h0
        exact spot_none h0
      subst hsp
      rw [Addr.add_lit] at h1 h2
      rw [Addr.add_lit] at h2
      obtain ⟨o, ho, _⟩ := cells_of_cell h1
      exact ⟨b, off, vs, rfl, (Array.getElem?_eq_some_iff.1 ho).1, h1, h2, h3⟩
    · simp only [hx] at hb
      rw [Rows.uptoBulk] at hb
      have h1 := bulk_len ((List.range len).map D)
      rw [List.length_map, List.length_range] at h1
      refine ⟨by rw [List.length_map, List.length_range]; omega, fun x hx' => ?_⟩
      obtain ⟨i, hir, rfl⟩ := List.mem_map.1 hx'
      have hil := List.mem_range.1 hir
      have h2 := bulk_mem (List.mem_map.2 ⟨i, hir, rfl⟩ : D i ∈ (List.range len).map D)
      obtain ⟨_, _, _, _, hbk⟩ := hS i hil
      exact hbk (by omega)
set_option maxRecDepth 100000 in
theorem policy_open {r : Reach} {b0 : Nat} {v : Value} {d : DataW H} {p : List MemPlace} (hv : Value.okWide Tryz.prog W r b0 25 v) (h : DataW.Trod enc Tryz.prog W 0 (fun _ => true) true 25 v d p) :
    ∃ (q : Option Addr) (l : List Dir) (cap : Nat) (rep : Bool), v = .agg #[.slice q l.length cap, .bool rep] ∧ Dirs W (.slice q l.length cap) l ∧ (Rows.uptoBulk d ≤ 1048576 → Bk l) := by
  obtain ⟨cs, rfl, hsz⟩ := okWide_struct Tryz.underlying25 hv
  obtain ⟨l⟩ := cs
  match l, hsz.trans (show Tryz.prog.cellsOf 25 = 2 by kernel_rfl) with
  | [c0, c1], _ =>
    obtain ⟨fuel, hf⟩ := h
    obtain ⟨n2, y0, y1, g0, g1, hz⟩ := two_fields Tryz.underlying25 (by kernel_rfl) (z := (d, p)) hf
    obtain ⟨q, l, cap, e1, hd, hbk⟩ := dirs_open g0
    obtain ⟨b, e2, _⟩ := DataW.trod_bool Tryz.underlying4 g1
    simp only [List.cons.injEq, and_true] at e2
    subst e1; subst e2
    refine ⟨q, l, cap, b, rfl, hd, fun hb => hbk ?_⟩
    have hz' : d = .agg [y0.1, y1.1] := hz
    rw [hz'] at hb
    simp only [Rows.uptoBulk, Rows.uptoBulkAll] at hb
    omega
end
end Go.Proofs.YtempmmkdppelaaaGreatDoor
/-
  A list of texts as an argument.
-/
namespace Go.Proofs.YtempmmkdppelaaaGreatDoor
open Go.ChangeShapes Go.WideShapes Go.ChangeAt Go.RowKit Go.Deep
set_option maxRecDepth 100000 in
theorem strs_arg {H : Type} {enc : TypeId × Value → H} {W : World} {r : Reach} {b0 : Nat} {v : Value} {d : DataW H} {p : List MemPlace} (hv : Value.okWide Tryz.prog W r b0 22 v) (h : DataW.Trod enc Tryz.prog W 0 (fun _ => true) true 22 v d p) :
    ∃ (q : Option Addr) (l : List ByteArray) (cap : Nat), v = .slice q l.length cap ∧ Strs W (.slice q l.length cap) l ∧ (Rows.uptoBulk d ≤ 1048576 → l.length ≤ 1048576 ∧ ∀ x ∈ l, x.size ≤ 1048576) := by
  obtain ⟨x, y, c, rfl⟩ := okWide_slice Tryz.underlying22 hv
  obtain ⟨fuel, hf⟩ := h
  exact strs_open (z := (d, p)) hf
end Go.Proofs.YtempmmkdppelaaaGreatDoor
