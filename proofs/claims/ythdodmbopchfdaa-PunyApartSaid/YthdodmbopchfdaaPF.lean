import Derived.Test.YthdodmbopchfdaaPG
import Derived.Test.YthdodmbopchfdaaUJ
namespace Go.Proofs.Ythdodmbopchfdaa
open Go.RowKit P
def u8 (x : Int) : UInt8 := x.toNat.toUInt8
theorem u8_cells (l : List Int) (h : ∀ x ∈ l, 0 ≤ x ∧ x < 256) : l.map (Value.int .u8) = Lib.byteCells (l.map u8) := by
  unfold Lib.byteCells
  rw [List.map_map]
  apply List.map_congr_left
  intro x hx
  have := h x hx
  show Value.int .u8 x = .int .u8 ((u8 x).toNat : Int)
  congr 1
  unfold u8
  rw [U.u8_nat (by omega)]; omega
theorem addr_add (g j : Nat) : (⟨g, 0, none⟩ : Addr).add j = ⟨g, j, none⟩ := by unfold Addr.add; split <;> simp_all
theorem own_back {P : Program} {w : World} {B : Nat} {v : Value} {l : List Int} (h : OwnB w B v l) (hb : ∀ x ∈ l, 0 ≤ x ∧ x < 256) (hs : P.underlying 35 = some (.slice 5)) (he : P.underlying 5 = some (.int .u8)) (hd : P.underlying 9 = some .string) :
    (convert 35 9 v).run P w = .ok (.string ⟨(l.map u8).toArray⟩) w := by
  unfold OwnB at h
  rw [u8_cells l hb] at h
  rcases h.2 with ⟨rfl, h0⟩ | ⟨g, cap, cur, rfl, hB, hg, hnc, hmx, hsz, htk⟩
  · have : l = [] := List.eq_nil_of_length_eq_zero h0
    subst this
    exact run_convert_bytes_nil w 35 5 hs he 0 0 9 hd
  · have hl : l.length = (l.map u8).length := by simp
    rw [hl]
    exact run_convert_bytes_back w 35 9 5 ⟨g, 0, none⟩ cap (l.map u8) hs he hd (fun j hj => by
      rw [addr_add, cell_of_row _ _ j _ _ _ hg]
      have h1 := congrArg (fun x => x[j]?) htk
      simp only [List.getElem?_take, Array.getElem?_toList] at h1
      rw [if_pos (by simpa using hj)] at h1
      rw [h1]
      have hj2 : j < l.length := by simpa using hj
      simp [Lib.byteCells, hj2])
def encM (base : List Int) : Option (List Int) → List Int × Int
  | none => ([], 10)
  | some o => (base ++ o.map digZ, 0)
/-- what Encode answers: bytes and an error's number -/
def encS (l : List Int) : List Int × Int :=
  if 4096 < l.length then ([], 3)
  else if ¬ l.map U.rep = l then ([], 2)
  else encM (baseOf l) (enc (lt 128 l).length l l.length 128 ⟨[], 0, 72, (lt 128 l).length⟩)
theorem may_bd {l : List Int} (h : l.map U.rep = l) : ∀ x ∈ l, 0 ≤ x ∧ x ≤ 1114111 := by
  intro x hx
  have := (rep_all l).1 h x hx
  unfold U.May at this; omega
theorem base_bd {l : List Int} (h : ∀ x ∈ l, 0 ≤ x ∧ x ≤ 1114111) : (∀ x ∈ baseOf l, 0 ≤ x ∧ x < 256) ∧ (baseOf l).length ≤ l.length + 1 := by
  unfold baseOf
  have hl := lt_len_le 128 l
  constructor
  · intro x hx
    rcases List.mem_append.1 hx with hx | hx
    · unfold lt at hx
      rw [List.mem_filter] at hx
      have := h x hx.1
      simp only [decide_eq_true_eq] at hx
      omega
    · split at hx
      · cases hx
      · simp only [List.mem_singleton] at hx; omega
  · rw [List.length_append]
    split
    · simp; omega
    · simp; omega
theorem digZ_all {o : List Int} (h : ∀ x ∈ o, 0 ≤ x ∧ x ≤ 35) : ∀ x ∈ o.map digZ, 0 ≤ x ∧ x < 256 := by
  intro x hx
  obtain ⟨y, hy, rfl⟩ := List.mem_map.1 hx
  have := h y hy
  have := digZ_bd this.1 this.2
  omega
theorem enc_stop {p : Int} {l : List Int} {f : Nat} {n : Int} {s : St} (h : ¬ s.h < l.length) : enc p l f n s = some s.o := by
  cases f with
  | zero => rfl
  | succ f => rw [enc, if_neg h]
theorem enc_go {p : Int} {l : List Int} {f : Nat} {n : Int} {s s' : St} (h : s.h < l.length) (hr : round p n l s = some s') : enc p l (f + 1) n s = enc p l f (P.least n l + 1) s' := by
  rw [enc, if_pos h, hr]
theorem enc_no {p : Int} {l : List Int} {f : Nat} {n : Int} {s : St} (h : s.h < l.length) (hr : round p n l s = none) : enc p l (f + 1) n s = none := by
  rw [enc, if_pos h, hr]
theorem hd_all {bas l : List Int} {n : Int} {s : St} (h : Hd bas l n s) : (∀ x ∈ s.o, 0 ≤ x ∧ x ≤ 35) ∧ s.h = (lt n l).length := by
  obtain ⟨ds, nd, id, hR, _, _, hh, _⟩ := h
  exact ⟨run_all hR, hh⟩
def hOf (w : World) (g : Nat) : Int := match w.cell? ⟨g, 4, none⟩ with | some (.int _ h) => h | _ => 0
theorem hOf_is {B g : Nat} {base : List Int} {n p : Int} {s : St} {w : World} (h : Wst B g base n p s w) : hOf w g = s.h := by
  obtain ⟨_, v, hG, _⟩ := h
  have c4 : w.cell? ⟨g, 4, none⟩ = some (.int .i64 s.h) := hG.cell 4 rfl
  unfold hOf
  rw [c4]
def encRes (l : List Int) (w : World) (e : Ending) (w' : World) : Prop := e = .returned (.tuple #[.string ⟨((encS l).1.map u8).toArray⟩, .int .i64 (encS l).2]) ∧ Below w.heap.size w w'
theorem encRes_of {l : List Int} {r : List Int} {c : Int} {w w' : World} (h : encS l = (r, c)) (hb : Below w.heap.size w w') : encRes l w (.returned (.tuple #[.string ⟨(r.map u8).toArray⟩, .int .i64 c])) w' := by
  unfold encRes; rw [h]; exact ⟨rfl, hb⟩
theorem round_at (g : Nat) (base bas l : List Int) (n m : Int) (s : St) (va : Value) (p : Nat) (hp : bas.length = p) (hm : P.least n l = m) (hl : l.length ≤ 4096) (hwf : ∀ x ∈ l, 0 ≤ x ∧ x ≤ 1114111) (hn0 : 0 ≤ n) (hnm : n ≤ m) (hm1 : m ≤ 1114111) (w0 w : World) (hb0 : Below w0.heap.size w0 w) (hA : RunesAt w0 va l) (hbd : Bd base s) (hM : Mid bas m [] l ⟨s.o, s.d + (m - n) * (s.h + 1), s.b, s.h⟩) (hW : Wst w0.heap.size g base n p s w) :
    Calls Try.prog 15 #[.pointer (some ⟨g, 0, none⟩), va] w fun e w' => RoundRes w0.heap.size g base p l n (round p n l s) w0 e w' := by
  subst hp; exact round_is g base bas l n m s va hm hl hwf hn0 hnm hm1 w0 w hb0 hA hbd hM hW
set_option maxRecDepth 100000 in
set_option maxHeartbeats 4000000 in
theorem encode_many (l : List Int) (va : Value) (hl : 4096 < l.length) (hl2 : l.length ≤ 9223372036854775807) (w : World) (hA : RunesAt w va l) : Calls Try.prog 7 #[va] w (encRes l w) := by
  have H := Lib.hid (show encS l = ([], 3) by unfold encS; rw [if_pos hl])
  obtain ⟨pa, ca, rfl, _⟩ := hA
  go_enter Try.func7, Try.ntmps7
  go_wp2
  go_ret2
  exact encRes_of H.out (Below.refl _ _)
set_option maxRecDepth 100000 in
set_option maxHeartbeats 4000000 in
theorem encode_range (l : List Int) (va : Value) (hl : l.length ≤ 4096) (hm : ¬ l.map U.rep = l) (w : World) (hA : RunesAt w va l) : Calls Try.prog 7 #[va] w (encRes l w) := by
  have H := Lib.hid (show encS l = ([], 2) by unfold encS; rw [if_neg (by omega), if_pos hm])
  have HM := Lib.hid (show decide (l.map U.rep = l) = false from decide_eq_false hm)
  have HA := Lib.hid hA
  obtain ⟨pa, ca, rfl, _⟩ := hA
  clear hm
  go_enter Try.func7, Try.ntmps7
  go_wp2_with fail
  refine (mayBe_is _ l false HM.out (by omega) _ HA.out).mono ?_
  rintro e w1 ⟨rfl, hb1⟩
  go_wp2
  go_ret2
  exact encRes_of H.out hb1
set_option maxRecDepth 100000 in
set_option maxHeartbeats 4000000 in
theorem encode_go (l : List Int) (va : Value) (hl : l.length ≤ 4096) (hm : l.map U.rep = l) (w : World) (hA : RunesAt w va l) : Calls Try.prog 7 #[va] w (encRes l w) := by
  obtain ⟨p, hp⟩ : ∃ p, (lt 128 l).length = p := ⟨_, rfl⟩
  obtain ⟨base, hbase⟩ : ∃ b, baseOf l = b := ⟨_, rfl⟩
  obtain ⟨R, hR⟩ : ∃ R, enc p l l.length 128 ⟨[], 0, 72, p⟩ = R := ⟨_, rfl⟩
  have hwf := may_bd hm
  have hbb := base_bd hwf
  have hst := hd_start l
  have hpl : p ≤ l.length := by have := lt_len_le 128 l; omega
  rw [hp] at hst
  rw [hbase] at hbb
  have HS : Hid (encS l = encM base R) := Lib.hid (by
    unfold encS; rw [if_neg (by omega), if_neg (by simpa using hm), hp, hR, hbase])
  have HM := Lib.hid (show decide (l.map U.rep = l) = true from decide_eq_true hm)
  have HA := Lib.hid hA
  have HST := Lib.hid hst
  have HR := Lib.hid hR
  have HP := Lib.hid hp
  have HBs := Lib.hid hbase
  have HW := Lib.hid hwf
  have HBB := Lib.hid hbb.1
  have hbl := hbb.2
  obtain ⟨pa, ca, rfl, _⟩ := hA
  clear hm hst hR hp hbase hwf hbb
  go_enter Try.func7, Try.ntmps7
  go_wp2_with fail
  refine (mayBe_is _ l true HM.out (by omega) _ HA.out).mono ?_
  rintro e w1 ⟨rfl, hb1⟩
  have HA1 := Lib.hid (HA.out.below hb1)
  go_wp2_with fail
  refine (begin_is l base p _ hl HW.out HBs.out HP.out w1 HA1.out).mono ?_
  rintro e w2 ⟨g, rfl, hW2, hb2⟩
  have HW2 : Hid (Wst w1.heap.size g base 128 p ⟨[], 0, 72, p⟩ w2) := Lib.hid (by unfold Wst; simpa using hW2)
  have HB1 := Lib.hid hb1
  clear hW2 hb1
  go_wp2_with fail
  go_loopw [13] (fun _ wr => ∃ (f : Nat) (n : Int) (s : St), Hid (enc p l f n s = R) ∧ Hid (Hd (lt 128 l) l n s) ∧ Hid (Bd base s) ∧ Hid (Wst w1.heap.size g base n p s wr) ∧ Below w1.heap.size w1 wr ∧ (l.length : Int) ≤ f + s.h ∧ 0 ≤ n ∧ n ≤ 1114112) (fun _ wr => l.length - (hOf wr g).toNat)
  case atStart =>
    exact ⟨l.length, 128, ⟨[], 0, 72, p⟩, HR, HST, Lib.hid ⟨Int.le_refl 0, by dsimp only; omega, by dsimp only; omega, by dsimp only; omega, by dsimp only; omega, by dsimp only; simp only [List.map_nil, List.append_nil]; omega⟩, HW2, hb2, by dsimp only; omega, by omega, by omega⟩
  case round =>
    clear HW2 hb2 HR HST
    obtain ⟨f, n, s, HE, HHd, HBd, HWs, hbel, hf, hn0, hn1⟩ := hrel
    obtain ⟨w9, rfl⟩ : ∃ w9 : World, w9 = wr := ⟨_, rfl⟩
    have hsz9 := hbel.size
    have hho := hOf_is HWs.out
    have HHO := Lib.hid hho
    obtain ⟨hoa, hhl⟩ := hd_all HHd.out
    have hlt0 := lt_len_le n l
    have c4 : w9.cell? ⟨g, 4, none⟩ = some (.int .i64 s.h) := by obtain ⟨_, v, hG, _⟩ := HWs.out; exact hG.cell 4 rfl
    have HOA := Lib.hid hoa
    have hhb : 0 ≤ s.h ∧ s.h ≤ l.length := by omega
    have HHL := Lib.hid hhl
    clear hho hoa hhl
    by_cases hlt : s.h < l.length
    · obtain ⟨f, rfl⟩ : ∃ k, f = k + 1 := ⟨f - 1, by omega⟩
      have hle := least_left (n := n) (fun r hr => (HW.out r hr).2) (by have := HHL.out; omega)
      obtain ⟨m, hm⟩ : ∃ m, P.least n l = m := ⟨_, rfl⟩
      rw [hm] at hle
      have hm1 := (HW.out m hle.2.1).2
      have HMid := Lib.hid (hd_mid HHd.out hle.1 hle.2.2)
      have hnm := hle.1
      have HMm := Lib.hid hm
      clear hle hm
      go_wp2_with fail
      obtain ⟨r, hr⟩ : ∃ r, round p n l s = r := ⟨_, rfl⟩
      have HRr := Lib.hid hr
      refine (round_at g base (lt 128 l) l n m s _ p HP.out HMm.out hl HW.out hn0 hnm hm1 w1 w9 hbel HA1.out HBd.out HMid.out HWs.out).mono ?_
      intro e w3 hres
      rw [hr] at hres
      clear hr c4
      cases r with
      | none =>
        obtain ⟨rfl, hb3⟩ := hres
        have HX : Hid (encS l = ([], 10)) := Lib.hid (by rw [HS.out, ← HE.out, enc_no hlt HRr.out]; rfl)
        go_wp2
        go_ret2
        exact encRes_of HX.out (bel2 HB1.out hb3)
      | some s' =>
        obtain ⟨rfl, hW3, hBd3, hb3⟩ := hres
        have hrh := round_hd (fun r hr => (HW.out r hr).2) HHd.out hlt (by rw [HP.out]; exact HRr.out)
        rw [HMm.out] at hrh hW3
        obtain ⟨r1, r2, r3, r4, r5⟩ := hrh
        have hho3 := hOf_is hW3
        obtain ⟨_, hhl3⟩ := hd_all r1
        have hlt3 := lt_len_le (m + 1) l
        have HW3 := Lib.hid hW3
        have HBd3 := Lib.hid hBd3
        have HHd3 := Lib.hid r1
        have HE3 : Hid (enc p l f (m + 1) s' = R) := Lib.hid (by rw [← HE.out, enc_go hlt HRr.out, HMm.out])
        have hh3 : 0 ≤ s'.h ∧ s'.h ≤ l.length := by omega
        have HHO3 := Lib.hid hho3
        clear hW3 hBd3 r1 hho3 hhl3
        go_wp2
        exact ⟨⟨f, m + 1, s', HE3, HHd3, HBd3, HW3, hb3, by omega, by omega, by omega⟩, by rw [HHO3.out, HHO.out]; omega⟩
    · have HX : Hid (encS l = (base ++ s.o.map digZ, 0)) := Lib.hid (by rw [HS.out, ← HE.out, enc_stop hlt]; rfl)
      obtain ⟨_, v, hG, hO⟩ := HWs.out
      obtain ⟨pv, cv, rfl⟩ := hO.form
      have c0 : w9.cell? ⟨g, 0, none⟩ = some (.slice pv (base ++ s.o.map digZ).length cv) := hG.cell 0 rfl
      have kb := own_back (P := Try.prog) hO (fun x hx => by
        rcases List.mem_append.1 hx with h | h
        · exact HBB.out x h
        · exact digZ_all HOA.out x h) Try.underlying35 Try.underlying5 Try.underlying9
      clear hG hO
      generalize base ++ s.o.map digZ = T at *
      generalize hTl : T.length = L at *
      have HTl := Lib.hid hTl
      clear hTl
      go_wp2
      go_ret2
      exact encRes_of HX.out (bel2 HB1.out hbel)
end Go.Proofs.Ythdodmbopchfdaa
