import Derived.Test.YtnjnhgeafbofkaaDoorProg
import Derived.WalkKit
import Derived.Laws.EntriesVeiled
import Derived.WalkSpells
import Derived.WalkLawsBesides
import Derived.Lib.Hide
import Derived.BigQuiet
import Derived.Deep.QuietTactic
import Derived.Below
import Derived.Outline
import Derived.Laws.OwnMore
import Derived.RangeFuncBox
import Derived.Maps.AppendAt
import Derived.OwnWalk
import Derived.Test.YtnjnhgeafbofkaaDoorWGM
import Derived.Test.YtnjnhgeafbofkaaDoorUMM
namespace Go.Proofs.YtnjnhgeafbofkaaDoor
open Go.RowKit
theorem ret_bool {a b : Bool} (h : a = b) : Ending.returned (.bool a) = Ending.returned (.bool b) := by rw [h]
theorem ret_int {k : IntKind} {a b : Int} (h : a = b) : Ending.returned (.int k a) = .returned (.int k b) := by rw [h]
theorem bel2 {a w1 w2 : World} (h : Below a.heap.size a w1) (k : Below w1.heap.size w1 w2) : Below a.heap.size a w2 := h.trans (k.mono h.size)
theorem below_dn {B : Nat} {a w : World} (h : Below B a w) (n : Nat) : Below B a (w.drewN n) := ⟨h.os, h.tape, h.output, h.size, h.block⟩
theorem bnew (w : World) (o : Obj) : Below w.heap.size w (w.alloc o) := (Below.refl _ w).alloc (Nat.le_refl _) o
/-- block g of w is the object o -/
def Has (w : World) (g : Nat) (o : Obj) : Prop := w.heap[g]? = some o
theorem Has.lt {w : World} {g : Nat} {o : Obj} (h : Has w g o) : g < w.heap.size := (Array.getElem?_eq_some_iff.1 h).1
theorem Has.new (w : World) (o : Obj) : Has (w.alloc o) w.heap.size o := heap_alloc_new w o
theorem Has.alloc {w : World} {g : Nat} {o : Obj} (h : Has w g o) (x : Obj) : Has (w.alloc x) g o := (Below.heap_alloc w x g h.lt).trans h
theorem Has.below {w w' : World} {g B : Nat} {o : Obj} (h : Has w g o) (hb : Below B w w') (hg : g < B) : Has w' g o := (hb.block g hg).trans h
theorem Has.to {w w' : World} {g : Nat} {o : Obj} (h : Has w g o) (hb : Below w.heap.size w w') : Has w' g o := h.below hb h.lt
theorem Has.cell {w : World} {g : Nat} {cs : Array Value} {t : TypeId} (h : Has w g (.cells cs t)) (i : Nat) {v : Value} (hv : cs[i]? = some v) : w.cell? ⟨g, i, none⟩ = some v := by
  rw [cell_of_row w g i cs t (0, 0) h]; exact hv
theorem Has.free {w : World} {g : Nat} {cs : Array Value} {t : TypeId} (h : Has w g (.cells cs t)) (i : Nat) : w.frozen? ⟨g, i, none⟩ = false := by
  unfold Has at h
  simp [World.frozen?, h]
theorem Has.set {w : World} {g : Nat} {cs : Array Value} {t : TypeId} (h : Has w g (.cells cs t)) (i : Nat) (u : Value) : Has (w.setCell ⟨g, i, none⟩ u) g (.cells (cs.setIfInBounds i u) t) := by
  unfold Has at h ⊢
  simp [World.setCell, Array.getElem?_modify, h]
theorem Has.far {w : World} {g : Nat} {o : Obj} (h : Has w g o) {p : Addr} (hp : g ≠ p.block) (u : Value) : Has (w.setCell p u) g o := (Below.heap_setCell w p u g hp).trans h
theorem take_snoc {α : Type} (l : List α) (k : Nat) (h : k < l.length) : l.take (k + 1) = l.take k ++ [l[k]] := by
  rw [List.take_succ_eq_append_getElem h]
/-- the runes l lie in w where the slice v says -/
def RunesAt (w : World) (v : Value) (l : List Int) : Prop :=
  ∃ (p : Option Addr) (cap : Nat), v = .slice p l.length cap ∧ ∀ k x, l[k]? = some x → ∃ g o, p = some ⟨g, o, none⟩ ∧ g < w.heap.size ∧ w.cell? ⟨g, o + k, none⟩ = some (.int .i32 x)
theorem RunesAt.below {w w' : World} {v : Value} {l : List Int} (h : RunesAt w v l) (hb : Below w.heap.size w w') : RunesAt w' v l := by
  obtain ⟨p, cap, hv, hc⟩ := h
  refine ⟨p, cap, hv, fun k x hk => ?_⟩
  obtain ⟨g, o, hp, hg, hx⟩ := hc k x hk
  exact ⟨g, o, hp, Nat.lt_of_lt_of_le hg hb.size, (hb.cell (p := ⟨g, o + k, none⟩) hg).trans hx⟩
theorem infoRune : (Tryd.prog.info? 21).map (fun i => (i.zero, i.size, i.bytes)) = some (some (.int .i32 0), 1, 4) := by kernel_rfl
theorem grownBy_set (w : World) (g i : Nat) (u : Value) : w.grownBy (w.setCell ⟨g, i, none⟩ u) (some g) := ⟨rfl, rfl, rfl, by simp, fun k _ hk => Below.heap_setCell w ⟨g, i, none⟩ u k (fun e => hk (by rw [e]))⟩
theorem own_ne {w : World} {base : Nat} {e t : TypeId} {size n g : Nat} {v : Value} {xs : List Value} {cs : Array Value} (h : w.ownsRow base e size v n xs) (hg : Has w g (.cells cs t)) (hne : e ≠ t) : v.ownBlock = none ∨ v.ownBlock ≠ some g := by
  rcases h.2 with ⟨rfl, _⟩ | ⟨g', cap, cur, rfl, _, hh, _⟩
  · exact .inl rfl
  · refine .inr fun he => ?_
    have : g' = g := by simpa [Value.ownBlock] using he
    subst this
    unfold Has at hg
    rw [hh] at hg
    injection hg with hg
    injection hg with _ ht
    exact hne ht
theorem own_set {w : World} {base : Nat} {e t : TypeId} {size n g : Nat} {v : Value} {xs : List Value} {cs : Array Value} (h : w.ownsRow base e size v n xs) (hg : Has w g (.cells cs t)) (hne : e ≠ t) (i : Nat) (u : Value) : (w.setCell ⟨g, i, none⟩ u).ownsRow base e size v n xs :=
  h.kept (grownBy_set w g i u) (own_ne h hg hne)
theorem Has.grown {w w' : World} {g : Nat} {o : Obj} {row : Option Nat} (h : Has w g o) (hg : w.grownBy w' row) (hne : some g ≠ row) : Has w' g o := (hg.block g h.lt hne).trans h
theorem has_past {w w' : World} {g : Nat} {o : Obj} {v : Value} (h : Has w g o) (hg : w.grownBy w' v.ownBlock) (hne : v.ownBlock = none ∨ v.ownBlock ≠ some g) : Has w' g o :=
  h.grown hg (by rcases hne with h | h; · rw [h]; simp
                 · exact fun e => h e.symm)
/-- the runes l, owned: a slice of the call's own -/
abbrev Own (w : World) (B : Nat) (v : Value) (l : List Int) : Prop := w.ownsRow B 21 1 v l.length (l.map (Value.int .i32))
theorem Own.to {w w' : World} {B : Nat} {v : Value} {l : List Int} (h : Own w B v l) (hb : Below w.heap.size w w') : Own w' B v l := by
  refine ⟨h.1, ?_⟩
  rcases h.2 with hn | ⟨g, cap, cur, rfl, hB, hg, rest⟩
  · exact .inl hn
  · exact .inr ⟨g, cap, cur, rfl, hB, (hb.block g (Array.getElem?_eq_some_iff.1 hg).1).trans hg, rest⟩
theorem Own.form {w : World} {B : Nat} {v : Value} {l : List Int} (h : Own w B v l) : ∃ p cap, v = .slice p l.length cap ∧ (∀ k x, l[k]? = some x → ∃ g, p = some ⟨g, 0, none⟩ ∧ B ≤ g ∧ g < w.heap.size ∧ w.cell? ⟨g, k, none⟩ = some (.int .i32 x) ∧ w.frozen? ⟨g, k, none⟩ = false) := by
  have h0 := h
  rcases h.2 with ⟨rfl, hn⟩ | ⟨g, cap, cur, rfl, hB, hg, hc, _, _, ht⟩
  · refine ⟨none, 0, by rw [hn], fun k x hk => ?_⟩
    have := (List.getElem?_eq_some_iff.1 hk).1
    omega
  · refine ⟨some ⟨g, 0, none⟩, cap, rfl, fun k x hk => ⟨g, rfl, hB, (Array.getElem?_eq_some_iff.1 hg).1, ?_, h0.frozenAt k⟩⟩
    have hkl := (List.getElem?_eq_some_iff.1 hk).1
    rw [h0.cellAt k (by omega)]
    simp [hk]
theorem lit32 (w : World) (c : Int) : ∀ j u, ([Value.int .i32 c])[j]? = some u → (w.alloc (.cells #[.int .i32 c] 21)).cell? ((⟨w.heap.size, 0, none⟩ : Addr).add j) = some u := cell_one_new w _ 21
theorem one32 (c : Int) : ∀ u ∈ [Value.int .i32 c], u.oneCell' = true := by
  intro u hu
  simp only [List.mem_singleton] at hu
  subst hu; rfl
theorem own_snoc {B : Nat} {v' : Value} {l : List Int} {c : Int} {w : World} (h : w.ownsRow B 21 1 v' (l.length + 1) (l.map (Value.int .i32) ++ [.int .i32 c])) : Own w B v' (l ++ [c]) := by
  unfold Own
  rw [List.length_append, List.map_append]
  exact h
theorem bel_grown {B : Nat} {w0 w w' : World} {v : Value} {l : List Int} (hb : Below B w0 w) (ho : Own w B v l) (hg : w.grownBy w' v.ownBlock) (hB : B ≤ w.heap.size) : Below B w0 w' :=
  hb.grown hg hB (fun k hk => (ho.lt k hk).1)
theorem get_some {l : List Int} {k : Nat} (h : k < l.length) : l[k]? = some l[k] := List.getElem?_eq_getElem h
end Go.Proofs.YtnjnhgeafbofkaaDoor
namespace Go.Proofs.YtnjnhgeafbofkaaDoor
open Go.RowKit
theorem extract_list (s : ByteArray) (k : Nat) : (s.extract k s.size).data.toList = s.data.toList.drop k := by
  simp only [ByteArray.data_extract, Array.toList_extract, List.extract_eq_take_drop]
  exact List.take_of_length_le (by simp)
theorem drop_cons (s : ByteArray) (k : Nat) (h : k < s.size) : s.data.toList.drop k = s[k] :: s.data.toList.drop (k + 1) := by
  rw [List.drop_eq_getElem_cons (by simpa using h)]; rfl
theorem writeByte_int (B b : Nat) (l : List UInt8) (c : UInt8) (n : Int) (hn : n = c.toNat) (w : World) (h : Bld B b l w) (hlen : l.length + 1 ≤ 140737488355328) (hBw : B ≤ w.heap.size) :
    Calls Tryd.prog 45 #[.pointer (some ⟨b, 0, none⟩), .int .u8 n] w fun e w' => e = .returned .nilIface ∧ (Bld B b (l ++ [c]) w' ∧ Below B w w' ∧ Lib.OthersKept 5 (some b) w w') := by
  subst hn; exact writeByte_any B b l c w h hlen hBw
theorem Bld.later {B b : Nat} {l : List UInt8} {w w' : World} (h : Bld B b l w) (hb : Below w.heap.size w w') : Bld B b l w' := by
  obtain ⟨hB, v, hbk, ⟨hn, hown⟩, hne⟩ := h
  refine ⟨hB, v, (hb.block b (lt_of_block hbk)).trans hbk, ⟨hn, ?_⟩, hne⟩
  rcases hown with h | ⟨g, cap, cur, fz, hv, hBg, hg, rest⟩
  · exact .inl h
  · exact .inr ⟨g, cap, cur, fz, hv, hBg, (hb.block g (lt_of_block hg)).trans hg, rest⟩
end Go.Proofs.YtnjnhgeafbofkaaDoor
namespace Go.Proofs.YtnjnhgeafbofkaaDoor
open Go.RowKit
theorem i32b (r : Int) (h : (Lit.int .i32 r).wf = true) : -2147483648 ≤ r ∧ r ≤ 2147483647 := by simpa [Lit.wf, IntKind.min, IntKind.max, IntKind.signed, IntKind.bits] using h
set_option maxHeartbeats 400000 in
theorem may_any (r : Int) (w : World) : Calls Tryd.prog 97 #[.int .i32 r] w fun e w' => e = .returned (.bool (decide (U.May r))) ∧ w = w' := by
  have H : Hid ((U.May r → decide (U.May r) = true) ∧ (¬ U.May r → decide (U.May r) = false)) := Lib.hid ⟨fun h => by simp [h], fun h => by simp [h]⟩
  by_cases h0 : 0 ≤ r
  · by_cases h1 : r ≤ 1114111
    · by_cases h2 : r < 55296
      · go_enter Tryd.func97, Tryd.ntmps97
        go_wp2
        go_ret
        exact ⟨ret_bool (by rw [H.out.1 (by unfold U.May; omega)]), rfl⟩
      · by_cases h3 : 57343 < r
        · go_enter Tryd.func97, Tryd.ntmps97
          go_wp2
          go_ret
          exact ⟨ret_bool (by rw [H.out.1 (by unfold U.May; omega)]), rfl⟩
        · go_enter Tryd.func97, Tryd.ntmps97
          go_wp2
          go_ret
          exact ⟨ret_bool (by rw [H.out.2 (by unfold U.May; omega)]), rfl⟩
    · go_enter Tryd.func97, Tryd.ntmps97
      go_wp2
      go_ret
      exact ⟨ret_bool (by rw [H.out.2 (by unfold U.May; omega)]), rfl⟩
  · go_enter Tryd.func97, Tryd.ntmps97
    go_wp2
    go_ret
    exact ⟨ret_bool (by rw [H.out.2 (by unfold U.May; omega)]), rfl⟩
theorem may_yes (r : Int) (h : U.May r) (w : World) : Calls Tryd.prog 97 #[.int .i32 r] w fun e w' => e = .returned (.bool true) ∧ w = w' := (may_any r w).mono fun _ _ ⟨h1, h2⟩ => ⟨by rw [h1]; exact ret_bool (by simp [h]), h2⟩
theorem may_no (r : Int) (h : ¬ U.May r) (w : World) : Calls Tryd.prog 97 #[.int .i32 r] w fun e w' => e = .returned (.bool false) ∧ w = w' := (may_any r w).mono fun _ _ ⟨h1, h2⟩ => ⟨by rw [h1]; exact ret_bool (by simp [h]), h2⟩
theorem encR_len1 {r : Int} (h0 : 0 ≤ r) (h1 : r ≤ 127) : (U.encR r).length = 1 := by rw [U.encR1 h0 h1]; rfl
theorem encR_len2 {r : Int} (h0 : 128 ≤ r) (h1 : r ≤ 2047) : (U.encR r).length = 2 := by rw [U.encR2 h0 h1]; rfl
theorem encR_len3 {r : Int} (h : (2048 ≤ r ∧ r < 55296) ∨ (57343 < r ∧ r ≤ 65535)) : (U.encR r).length = 3 := by rw [U.encR3 h]; rfl
theorem encR_len4 {r : Int} (h0 : 65536 ≤ r) (h1 : r ≤ 1114111) : (U.encR r).length = 4 := by rw [U.encR4 h0 h1]; rfl
theorem encR_lenb {r : Int} (h : ¬ U.May r) : (U.encR r).length = 3 := by rw [U.encR_bad h]; rfl
theorem ret_i64 {a b : Int} (h : a = b) : Ending.returned (.int .i64 a) = Ending.returned (.int .i64 b) := by rw [h]
set_option maxHeartbeats 400000 in
theorem width_any (r : Int) (w : World) : Calls Tryd.prog 98 #[.int .i32 r] w fun e w' => e = .returned (.int .i64 (U.encR r).length) ∧ w = w' := by
  by_cases hm : U.May r
  · have hr : (0 ≤ r ∧ r < 55296) ∨ (57343 < r ∧ r ≤ 1114111) := hm
    have HM := Lib.hid hm
    clear hm
    by_cases h1 : r < 128
    · have HL := Lib.hid (encR_len1 (r := r) (by omega) (by omega))
      clear hr
      go_enter Tryd.func98, Tryd.ntmps98
      go_wp2_with (go_at_call 97; refine (may_yes r HM.out _).mono ?_; rintro e w' ⟨rfl, rfl⟩)
      go_ret
      exact ⟨ret_i64 (by rw [HL.out]; rfl), rfl⟩
    · by_cases h2 : r < 2048
      · have HL := Lib.hid (encR_len2 (r := r) (by omega) (by omega))
        clear hr
        go_enter Tryd.func98, Tryd.ntmps98
        go_wp2_with (go_at_call 97; refine (may_yes r HM.out _).mono ?_; rintro e w' ⟨rfl, rfl⟩)
        go_ret
        exact ⟨ret_i64 (by rw [HL.out]; rfl), rfl⟩
      · by_cases h3 : r < 65536
        · have HL := Lib.hid (encR_len3 (r := r) (by omega))
          clear hr
          go_enter Tryd.func98, Tryd.ntmps98
          go_wp2_with (go_at_call 97; refine (may_yes r HM.out _).mono ?_; rintro e w' ⟨rfl, rfl⟩)
          go_ret
          exact ⟨ret_i64 (by rw [HL.out]; rfl), rfl⟩
        · have HL := Lib.hid (encR_len4 (r := r) (by omega) (by omega))
          clear hr
          go_enter Tryd.func98, Tryd.ntmps98
          go_wp2_with (go_at_call 97; refine (may_yes r HM.out _).mono ?_; rintro e w' ⟨rfl, rfl⟩)
          go_ret
          exact ⟨ret_i64 (by rw [HL.out]; rfl), rfl⟩
  · have HL := Lib.hid (encR_lenb hm)
    have HM := Lib.hid hm
    clear hm
    go_enter Tryd.func98, Tryd.ntmps98
    go_wp2_with (go_at_call 97; refine (may_no r HM.out _).mono ?_; rintro e w' ⟨rfl, rfl⟩)
    go_ret
    exact ⟨ret_i64 (by rw [HL.out]; rfl), rfl⟩
theorem and63 (r : Nat) (h : r ≤ 2147483647) : bits BinOp.and IntKind.i32 (r : Int) 63 = ((r % 64 : Nat) : Int) := by
  have e : (63 : Int) = ((63 : Nat) : Int) := rfl
  have h1 : (BitVec.ofInt 32 (r : Int)).toNat = r := by rw [BitVec.ofInt_natCast, BitVec.toNat_ofNat]; exact Nat.mod_eq_of_lt (by omega)
  have h3 : (BitVec.ofInt 32 ((63 : Nat) : Int)).toNat = 63 := by decide
  rw [e]
  show IntKind.i32.wrap ((BitVec.ofInt 32 (r : Int) &&& BitVec.ofInt 32 ((63 : Nat) : Int)).toNat : Int) = _
  rw [BitVec.toNat_and, h1, h3, nat_mask6]
  have : IntKind.i32.wrap ((r % 64 : Nat) : Int) = ((r % 64 : Nat) : Int) := by
    rw [IntKind.wrap_i32]; omega
  exact this
theorem or128 (x : Nat) (h : x < 64) : bits BinOp.or IntKind.u8 128 (x : Int) = ((128 + x : Nat) : Int) := by
  rw [show (128 : Int) = ((128 : Nat) : Int) from rfl, u8_or_nat _ _ (by omega) (by omega), nat_join 6 128 x (by omega) (by omega)]
theorem further_val (r : Int) (h0 : 0 ≤ r) (h1 : r ≤ 1114111) : bits BinOp.or IntKind.u8 128 (bits BinOp.and IntKind.i32 r 63 % 256) = (((128 + r % 64).toNat.toUInt8).toNat : Int) := by
  obtain ⟨n, rfl⟩ := Int.eq_ofNat_of_zero_le h0
  rw [and63 n (by omega), show (((n % 64 : Nat) : Int) % 256) = ((n % 64 : Nat) : Int) by omega, or128 _ (by omega), U.u8_nat (by omega)]
  omega
set_option maxHeartbeats 400000 in
theorem further_any (r : Int) (h0 : 0 ≤ r) (h1 : r ≤ 1114111) (w : World) : Calls Tryd.prog 99 #[.int .i32 r] w fun e w' => e = .returned (.int .u8 ((128 + r % 64).toNat.toUInt8).toNat) ∧ w = w' := by
  have HV := Lib.hid (further_val r h0 h1)
  go_enter Tryd.func99, Tryd.ntmps99
  go_wp2
  go_ret
  exact ⟨ret_int HV.out, rfl⟩
theorem writeB (B b : Nat) (l : List UInt8) (c : UInt8) (n : Int) (hn : n = c.toNat) (w : World) (h : Bld B b l w) (hlen : l.length + 1 ≤ 140737488355328) (hBw : B ≤ w.heap.size) :
    Calls Tryd.prog 45 #[.pointer (some ⟨b, 0, none⟩), .int .u8 n] w fun e w' => e = .returned .nilIface ∧ (Bld B b (l ++ [c]) w' ∧ Below B w w' ∧ Lib.OthersKept 5 (some b) w w') := writeByte_int B b l c n hn w h hlen hBw
theorem or_lead (base i x : Nat) (hb : base % 2 ^ i = 0) (hbb : base < 256) (hx : x < 2 ^ i) (hs : base + x < 256) : bits BinOp.or IntKind.u8 (base : Int) (x : Int) = ((base + x : Nat) : Int) := by
  rw [u8_or_nat _ _ hbb (by omega), nat_join i base x hb hx]
theorem width_is (r : Int) (n : Nat) (h : (U.encR r).length = n) (w : World) : Calls Tryd.prog 98 #[.int .i32 r] w fun e w' => e = .returned (.int .i64 n) ∧ w = w' := by
  rw [← h]; exact width_any r w
end Go.Proofs.YtnjnhgeafbofkaaDoor
