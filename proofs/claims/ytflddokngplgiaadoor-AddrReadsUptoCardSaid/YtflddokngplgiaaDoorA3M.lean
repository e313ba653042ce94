import Derived.Test.YtflddokngplgiaaDoorA1M
import Derived.Test.YtflddokngplgiaaDoorA2cM
import Derived.Test.YtflddokngplgiaaDoorShelfM
import Derived.Lib.UnsafeStr
import Derived.Laws.Panics
namespace Go.Proofs.YtflddokngplgiaaDoor
open Go.RowKit
/-- what the package's variables hold, and those of the library that are read -/
structure Glob (w : World) : Prop where
  dec0 : w.cell? ⟨0, 0, none⟩ = some (.int .u8 48)
  dec1 : w.cell? ⟨0, 1, none⟩ = some (.int .u8 57)
  oct0 : w.cell? ⟨1, 0, none⟩ = some (.int .u8 48)
  oct1 : w.cell? ⟨1, 1, none⟩ = some (.int .u8 55)
  sm0 : w.cell? ⟨2, 0, none⟩ = some (.int .u8 97)
  sm1 : w.cell? ⟨2, 1, none⟩ = some (.int .u8 102)
  gr0 : w.cell? ⟨3, 0, none⟩ = some (.int .u8 65)
  gr1 : w.cell? ⟨3, 1, none⟩ = some (.int .u8 70)
  mlen : ∃ m, w.cell? ⟨4, 0, none⟩ = some (.int .i64 m)
  err : ∃ v, w.cell? ⟨9, 0, none⟩ = some v ∧ (v = .nilIface ∨ ∃ te pe, v = .iface te pe)
  pow : ∀ w', Below w.heap.size w w' → Lib.TabIs Tryd.prog w' "internal/strconv.uint64pow10" .u64 Lib.pow10Tab
  bru : w.cell? ⟨11, 15, none⟩ = some (.int .u8 4)
  lt : 12 ≤ w.heap.size
theorem Glob.to {w w' : World} (h : Glob w) (hb : Below w.heap.size w w') : Glob w' := by
  have hl := h.lt
  have c : ∀ (g i : Nat) (v : Value), g < 12 → w.cell? ⟨g, i, none⟩ = some v → w'.cell? ⟨g, i, none⟩ = some v := fun g i v hg hc => (hb.cell (p := ⟨g, i, none⟩) (by show g < _; omega)).trans hc
  exact ⟨c _ _ _ (by omega) h.dec0, c _ _ _ (by omega) h.dec1, c _ _ _ (by omega) h.oct0, c _ _ _ (by omega) h.oct1, c _ _ _ (by omega) h.sm0, c _ _ _ (by omega) h.sm1, c _ _ _ (by omega) h.gr0, c _ _ _ (by omega) h.gr1,
    h.mlen.elim fun m hm => ⟨m, c _ _ _ (by omega) hm⟩, h.err.elim fun v hv => ⟨v, c _ _ _ (by omega) hv.1, hv.2⟩, fun w2 h2 => h.pow w2 (hb.trans (h2.mono hb.size)), c _ _ _ (by omega) h.bru, Nat.le_trans hl hb.size⟩
theorem Glob.dn {w : World} (h : Glob w) (n : Nat) : Glob (w.drewN n) := h.to (below_dn (Below.refl _ _) n)
set_option maxHeartbeats 1000000 in
set_option maxRecDepth 100000 in
theorem pub_any (t : ByteArray) (hmax : t.size ≤ 140737488355328) (base : Int) (n : Nat) (w : World) (hG : Glob w)
    (hc : Calls Tryd.prog 66 #[.string t, .int .i64 base, .int .i64 64] w fun e w' => PuRet n e ∧ w' = Lib.bytesWorld w 5 t) :
    Calls Tryd.prog 54 #[.string t, .int .i64 base, .int .i64 64] w fun e w' => (∃ v, e = .returned (.tuple #[.int .u64 n, v])) ∧ Below w.heap.size w w' := by
  have HG := Lib.hid hG
  clear hG
  go_enter Tryd.func54, Tryd.ntmps54
  go_wp2_with fail
  refine hc.mono ?_
  rintro e w1 ⟨⟨v, rfl, hv⟩, hw⟩
  have hb := bel_bytes w t
  rw [← hw] at hb
  have HB := Lib.hid hb
  have HG1 := Lib.hid (HG.out.to hb)
  clear hw hb
  rcases hv with rfl | rfl
  · go_wp2_with fail
    go_ret2
    exact ⟨⟨_, rfl⟩, HB.out⟩
  · obtain ⟨ev, he1, he2⟩ := HG1.out.err
    have HC := Lib.hid (Tryd.strconv_toError_range ⟨#[80, 97, 114, 115, 101, 85, 105, 110, 116]⟩ t base 64 ev w1 (by omega) he1 he2)
    clear he1 he2
    go_wp2_with fail
    refine HC.out.mono ?_
    rintro e w2 ⟨N, rfl, h1, h2, h3⟩
    have HB2 := Lib.hid (HB.out.trans (h3.mono HB.out.size))
    clear h2 h3 h1
    go_wp2_with fail
    go_ret2
    exact ⟨⟨_, rfl⟩, HB2.out⟩
/-- what 'value' answers: 0 and false, or the number and true -/
def valT (o : Option Nat) : Value := match o with
  | none => .tuple #[.int .u64 0, .bool false]
  | some n => .tuple #[.int .u64 n, .bool true]
theorem two_mono {P : World → Prop} {e : Ending} {w : World} (h : P w) : P w := h
set_option maxHeartbeats 1000000 in
set_option maxRecDepth 100000 in
theorem value_no (t : ByteArray) (hmax : t.size ≤ 140737488355328) (base : Int) (g : Nat) (ks : List Kd) (n cp : Nat) (hn : n = ks.length) (h8 : n ≤ 8) (w : World) (hk : Kinds w g ks) (hm : madeL ks t.data.toList = false) :
    Calls Tryd.prog 39 #[.string t, .int .i64 base, .slice (some ⟨g, 0, none⟩) n cp] w fun e w' => e = .returned (.tuple #[.int .u64 0, .bool false]) ∧ Below w.heap.size w w' := by
  have HC := Lib.hid (made_any t hmax g ks n cp hn h8 w hk)
  have HM := Lib.hid hm
  clear hn hk hm
  go_enter Tryd.func39, Tryd.ntmps39
  go_wp2_with fail
  refine HC.out.mono ?_
  rintro e w1 ⟨rfl, hb⟩
  have HB := Lib.hid hb
  clear hb
  rw [HM.out]
  go_wp2_with fail
  go_ret2
  exact ⟨rfl, HB.out⟩
set_option maxHeartbeats 1000000 in
set_option maxRecDepth 100000 in
theorem value_yes (t : ByteArray) (hmax : t.size ≤ 140737488355328) (base : Int) (v : Nat) (g : Nat) (ks : List Kd) (n cp : Nat) (hn : n = ks.length) (h8 : n ≤ 8) (w : World) (hG : Glob w) (hk : Kinds w g ks) (hm : madeL ks t.data.toList = true)
    (hc : ∀ w, Calls Tryd.prog 66 #[.string t, .int .i64 base, .int .i64 64] w fun e w' => PuRet v e ∧ w' = Lib.bytesWorld w 5 t) :
    Calls Tryd.prog 39 #[.string t, .int .i64 base, .slice (some ⟨g, 0, none⟩) n cp] w fun e w' => e = .returned (.tuple #[.int .u64 v, .bool true]) ∧ Below w.heap.size w w' := by
  have HC := Lib.hid (made_any t hmax g ks n cp hn h8 w hk)
  have HM := Lib.hid hm
  have HG := Lib.hid hG
  have HP := Lib.hid hc
  clear hn hk hm hG hc
  go_enter Tryd.func39, Tryd.ntmps39
  go_wp2_with fail
  refine HC.out.mono ?_
  rintro e w1 ⟨rfl, hb⟩
  have HB := Lib.hid hb
  have HG1 := Lib.hid (HG.out.to hb)
  clear hb
  rw [HM.out]
  go_wp2_with fail
  refine (pub_any t hmax base v _ HG1.out (HP.out _)).mono ?_
  rintro e w2 ⟨⟨x, rfl⟩, hb⟩
  have HB2 := Lib.hid (bel2 HB.out hb)
  clear hb
  go_wp2_with fail
  go_ret2
  exact ⟨rfl, HB2.out⟩
end Go.Proofs.YtflddokngplgiaaDoor
namespace Go.Proofs.YtflddokngplgiaaDoor
open Go.RowKit
theorem infoByte : (Tryd.prog.info? 5).map (fun i => (i.zero, i.size, i.bytes)) = some (some (.int .u8 0), 1, 1) := by kernel_rfl
/-- the bytes l as a row of the call's own -/
def Own (base : Nat) (v : Value) (l : List UInt8) (w : World) : Prop := w.ownsRow base 5 1 v l.length (Lib.byteCells l)
theorem own_back {P : Program} {w : World} {B : Nat} {v : Value} {l : List UInt8} (h : Own B v l w) (hs : P.underlying 56 = some (.slice 5)) (he : P.underlying 5 = some (.int .u8)) (hd : P.underlying 9 = some .string) :
    (convert 56 9 v).run P w = .ok (.string ⟨l.toArray⟩) w := by
  rcases h.2 with ⟨rfl, h0⟩ | ⟨g, cap, cur, rfl, hB, hg, hnc, hmx, hsz, htk⟩
  · have : l = [] := List.eq_nil_of_length_eq_zero h0
    subst this
    exact run_convert_bytes_nil w 56 5 hs he 0 0 9 hd
  · exact run_convert_bytes_back w 56 9 5 ⟨g, 0, none⟩ cap l hs he hd (fun j hj => by
      have e : (⟨g, 0, none⟩ : Addr).add j = ⟨g, j, none⟩ := by unfold Addr.add; split <;> simp_all
      rw [e, cell_of_row _ _ j _ _ _ hg]
      have h1 := congrArg (fun x => x[j]?) htk
      simp only [List.getElem?_take, Array.getElem?_toList] at h1
      rw [if_pos (by omega)] at h1
      rw [h1]
      simp [Lib.byteCells, hj])
theorem own_snoc {B : Nat} {v' : Value} {l : List UInt8} {c : UInt8} {w : World} (h : w.ownsRow B 5 1 v' (l.length + 1) (Lib.byteCells l ++ [.int .u8 c.toNat])) : Own B v' (l ++ [c]) w := by
  show w.ownsRow B 5 1 v' (l ++ [c]).length _
  rw [Lib.byteCells_append, List.length_append]
  exact h
theorem lit_one (w : World) (c : Int) : ∀ j u, ([Value.int .u8 c])[j]? = some u → (w.alloc (.cells #[.int .u8 c] 5)).cell? ((⟨w.heap.size, 0, none⟩ : Addr).add j) = some u := cell_one_new w _ 5
theorem one_cell (c : Int) : ∀ u ∈ [Value.int .u8 c], u.oneCell' = true := by intro u hu; simp at hu; subst hu; rfl
theorem own_app {B : Nat} {v' : Value} {l m : List UInt8} {w : World} (h : w.ownsRow B 5 1 v' (l.length + m.length) (Lib.byteCells l ++ Lib.byteCells m)) : Own B v' (l ++ m) w := by
  show w.ownsRow B 5 1 v' (l ++ m).length _
  rw [Lib.byteCells_append, List.length_append]
  exact h
set_option maxHeartbeats 1000000 in
theorem app10 (B u : Nat) (a : Int) (ha : a = (u : Int)) (hu : u < 256) (sv : Value) (l : List UInt8) (hl : l.length ≤ 1000) (w : World) (hown : Own B sv l w) (hBw : B ≤ w.heap.size) (hG : Glob w) :
    Calls Tryd.prog 32 #[sv, .int .u64 a, .int .i64 10] w fun e w' => ∃ v', e = .returned v' ∧ Own B v' (l ++ Lib.decDigits u) w' ∧ Below B w w' := by
  subst ha
  have HC := Lib.hid (show Calls Tryd.prog 48 #[sv, .int .u64 u, .int .i64 10] w fun e w' => ∃ v', e = .returned v' ∧ Own B v' (l ++ Lib.decDigits u) w' ∧ Below B w w' by
    by_cases h : u < 100
    · exact (Tryd.internal_strconv_AppendUint_10_small B l.length u h sv (Lib.byteCells l) w hown hBw (by omega)).mono fun e w' ⟨v', he, ho, hb, _⟩ => ⟨v', he, own_app ho, hb⟩
    · exact (Tryd.internal_strconv_AppendUint_10_big B l.length u (by omega) (by omega) sv (Lib.byteCells l) w hown hBw (by omega) (hG.pow w (Below.refl _ _))).mono fun e w' ⟨v', he, ho, hb, _⟩ => ⟨v', he, own_app ho, hb⟩)
  clear hown hG
  go_enter Tryd.func32, Tryd.ntmps32
  go_wp2_with fail
  refine HC.out.mono ?_
  rintro e w1 ⟨v', rfl, h1, h2⟩
  have HX := Lib.hid (And.intro h1 h2)
  clear h1 h2
  go_wp2_with fail
  go_ret
  exact ⟨v', rfl, HX.out⟩
/-- with a byte between -/
def joinC (c : UInt8) : List (List UInt8) → List UInt8
  | [] => []
  | [p] => p
  | p :: q :: r => p ++ c :: joinC c (q :: r)
theorem joinC_snoc (c : UInt8) (l : List (List UInt8)) (p : List UInt8) (h : l ≠ []) : joinC c (l ++ [p]) = joinC c l ++ c :: p := by
  induction l with
  | nil => exact absurd rfl h
  | cons a r ih =>
    cases r with
    | nil => rfl
    | cons b r' =>
      have := ih (by simp)
      simp only [List.cons_append, joinC] at this ⊢
      rw [this, List.append_assoc]; rfl
def tv4 (n : Nat) : List UInt8 := joinC 46 ([n / 16777216, n / 65536 % 256, n / 256 % 256, n % 256].map Lib.decDigits)
theorem dec_len (u : Nat) (h : u < 256) : (Lib.decDigits u).length ≤ 3 := by
  rw [Lib.decDigits_length]
  by_cases h1 : u < 10
  · rw [Lib.nDigits_small h1]; omega
  · rw [Lib.nDigits_big h1]
    by_cases h2 : u / 10 < 10
    · rw [Lib.nDigits_small h2]; omega
    · rw [Lib.nDigits_big h2, Lib.nDigits_small (by omega)]; omega
theorem run_index4 (cs : Array Value) (i : Nat) (v : Value) (hi : i < 4) (hv : cs[i]? = some v) (h1 : cs.size = 4) (w : World) : (Instr.index 57 (.agg cs) (.int .i64 (i : Int))).run Tryd.prog w = .ok v w := by
  have h : i = 0 ∨ i = 1 ∨ i = 2 ∨ i = 3 := by omega
  obtain ⟨l⟩ := cs
  match l, h1 with
  | [a, b, c, d], _ =>
    rcases h with rfl | rfl | rfl | rfl
    all_goals
      simp at hv
      subst hv
      simp [Instr.index, run_underlying Tryd.underlying57, asIntOf, go_sem]
def bytes4 (n : Nat) : List Nat := [n / 16777216, n / 65536 % 256, n / 256 % 256, n % 256]
def pre4 (n k : Nat) : List UInt8 := joinC 46 (((bytes4 n).take k).map Lib.decDigits)
theorem pre4_0 (n : Nat) : pre4 n 1 = pre4 n 0 ++ Lib.decDigits (n / 16777216) := rfl
theorem pre4_1 (n : Nat) : pre4 n 2 = (pre4 n 1 ++ [46]) ++ Lib.decDigits (n / 65536 % 256) := by simp [pre4, bytes4, joinC]
theorem pre4_2 (n : Nat) : pre4 n 3 = (pre4 n 2 ++ [46]) ++ Lib.decDigits (n / 256 % 256) := by simp [pre4, bytes4, joinC]
theorem pre4_3 (n : Nat) : pre4 n 4 = (pre4 n 3 ++ [46]) ++ Lib.decDigits (n % 256) := by simp [pre4, bytes4, joinC]
theorem pre4_len (n k : Nat) (hn : n < 4294967296) (hk : k ≤ 4) : (pre4 n k).length ≤ 4 * k := by
  have h0 := dec_len (n / 16777216) (by omega)
  have h1 := dec_len (n / 65536 % 256) (by omega)
  have h2 := dec_len (n / 256 % 256) (by omega)
  have h3 := dec_len (n % 256) (by omega)
  have : k = 0 ∨ k = 1 ∨ k = 2 ∨ k = 3 ∨ k = 4 := by omega
  have e0 : (pre4 n 0).length = 0 := rfl
  have e1 : (pre4 n 1).length ≤ 4 := by rw [pre4_0, List.length_append]; omega
  have e2 : (pre4 n 2).length ≤ 8 := by rw [pre4_1, List.length_append, List.length_append]; simp only [List.length_cons, List.length_nil]; omega
  have e3 : (pre4 n 3).length ≤ 12 := by rw [pre4_2, List.length_append, List.length_append]; simp only [List.length_cons, List.length_nil]; omega
  have e4 : (pre4 n 4).length ≤ 16 := by rw [pre4_3, List.length_append, List.length_append]; simp only [List.length_cons, List.length_nil]; omega
  rcases this with rfl | rfl | rfl | rfl | rfl <;> omega
set_option maxHeartbeats 8000000 in
set_option maxRecDepth 100000 in
theorem textV4_is (n : Nat) (hn : n < 4294967296) (w : World) (hG : Glob w) :
    Calls Tryd.prog 17 #[.int .u32 n] w fun e w' => e = .returned (.string ⟨(tv4 n).toArray⟩) ∧ Below w.heap.size w w' := by
  obtain ⟨i0, hi, hz0, hz1, hz2⟩ := info_parts infoByte
  have HG := Lib.hid hG
  clear hG
  go_enter Tryd.func17, Tryd.ntmps17
  go_wp2_with fail
  go_loopw [3, 18] (fun v i wr => ∃ k : Nat, k ≤ 4 ∧ i = .int .i64 k ∧ Own w.heap.size v (pre4 n k) wr ∧ Glob wr ∧ Below w.heap.size w wr) (fun _ i _ => 4 - (intOf i).toNat)
  case atStart => exact ⟨0, by omega, rfl, World.ownsRow_nil _ _ _ _, HG.out, Below.refl _ _⟩
  case round =>
    obtain ⟨k, hk, rfl, hown, hGr, hbel⟩ := hrel
    have hlen := pre4_len n k hn hk
    have HL := Lib.hid hlen
    have HO := Lib.hid hown
    have HGr := Lib.hid hGr
    have HB := Lib.hid hbel
    have hkk : k = 0 ∨ k = 1 ∨ k = 2 ∨ k = 3 ∨ k = 4 := by omega
    clear hlen hown hGr hbel hk
    rcases hkk with rfl | rfl | rfl | rfl | rfl
    · have ki : ∀ W, (Instr.index 57 (.agg #[.int .u8 ((n : Int) / 16777216), .int .u8 ((n : Int) / 65536 % 256), .int .u8 ((n : Int) / 256 % 256), .int .u8 ((n : Int) % 256)]) (.int .i64 0)).run Tryd.prog W = .ok (.int .u8 ((n : Int) / 16777216)) W := fun W => run_index4 _ 0 _ (by omega) rfl rfl W
      go_wp2_with fail
      refine (app10 w.heap.size (n / 16777216) ((n : Int) / 16777216) (by omega) (by omega) _ _ (by have := HL.out; omega) _ HO.out HB.out.size HGr.out).mono ?_
      rintro e w1 ⟨v1, rfl, ho, hb⟩
      have HO1 := Lib.hid ho
      have HB1 := Lib.hid (HB.out.trans hb)
      have HG1 := Lib.hid (HG.out.to HB1.out)
      clear ho hb
      go_wp2_with fail
      go_roundw
      case rel => exact ⟨1, by omega, rfl, by rw [pre4_0]; exact HO1.out, HG1.out, HB1.out⟩
      case measure => simp [intOf]
    · have ki : ∀ W, (Instr.index 57 (.agg #[.int .u8 ((n : Int) / 16777216), .int .u8 ((n : Int) / 65536 % 256), .int .u8 ((n : Int) / 256 % 256), .int .u8 ((n : Int) % 256)]) (.int .i64 1)).run Tryd.prog W = .ok (.int .u8 ((n : Int) / 65536 % 256)) W := fun W => run_index4 _ 1 _ (by omega) rfl rfl W
      have hle : (pre4 n 1).length ≤ 4 := HL.out
      have HLE := Lib.hid hle
      clear hle
      go_wp2_with (at_builtin; refine wpList_append_own _ rfl _ _ 56 rfl w.heap.size 5 i0 (.int .u8 0) 1 1 Tryd.underlying56 hi hz0 hz1 hz2 rfl (by decide) _ _ _ rfl (HO.out.alloc _) ⟨wr.heap.size, 0, none⟩ 1 1 [.int .u8 46] rfl rfl (lit_one _ _) (one_cell _) (by have := HLE.out; unfold maxLen; omega) (by have := HLE.out; omega) (by have := HB.out.size; simp; omega) ?_; intro v' w1 hown' hgrow _; have HO1 := Lib.hid hown'; clear hown'; have HW := Lib.hid hgrow; clear hgrow)
      have HO1 := Lib.hid (own_snoc (c := 46) HO1.out)
      have HB1 := Lib.hid ((HB.out.alloc HB.out.size _).grown HW.out (by have := HB.out.size; simp; omega) (fun k hk => (HO.out.lt k hk).1))
      have HG1 := Lib.hid (HG.out.to HB1.out)
      refine (app10 w.heap.size (n / 65536 % 256) ((n : Int) / 65536 % 256) (by omega) (by omega) _ _ (by have := HLE.out; simp; omega) _ HO1.out HB1.out.size HG1.out).mono ?_
      rintro e w2 ⟨v2, rfl, ho, hb⟩
      have HO2 := Lib.hid ho
      have HB2 := Lib.hid (HB1.out.trans hb)
      have HG2 := Lib.hid (HG.out.to HB2.out)
      clear ho hb
      go_wp2_with fail
      go_roundw
      case rel => exact ⟨2, by omega, rfl, by rw [pre4_1]; exact HO2.out, HG2.out, HB2.out⟩
      case measure => simp [intOf]
    · have ki : ∀ W, (Instr.index 57 (.agg #[.int .u8 ((n : Int) / 16777216), .int .u8 ((n : Int) / 65536 % 256), .int .u8 ((n : Int) / 256 % 256), .int .u8 ((n : Int) % 256)]) (.int .i64 2)).run Tryd.prog W = .ok (.int .u8 ((n : Int) / 256 % 256)) W := fun W => run_index4 _ 2 _ (by omega) rfl rfl W
      have hle : (pre4 n 2).length ≤ 8 := HL.out
      have HLE := Lib.hid hle
      clear hle
      go_wp2_with (at_builtin; refine wpList_append_own _ rfl _ _ 56 rfl w.heap.size 5 i0 (.int .u8 0) 1 1 Tryd.underlying56 hi hz0 hz1 hz2 rfl (by decide) _ _ _ rfl (HO.out.alloc _) ⟨wr.heap.size, 0, none⟩ 1 1 [.int .u8 46] rfl rfl (lit_one _ _) (one_cell _) (by have := HLE.out; unfold maxLen; omega) (by have := HLE.out; omega) (by have := HB.out.size; simp; omega) ?_; intro v' w1 hown' hgrow _; have HO1 := Lib.hid hown'; clear hown'; have HW := Lib.hid hgrow; clear hgrow)
      have HO1 := Lib.hid (own_snoc (c := 46) HO1.out)
      have HB1 := Lib.hid ((HB.out.alloc HB.out.size _).grown HW.out (by have := HB.out.size; simp; omega) (fun k hk => (HO.out.lt k hk).1))
      have HG1 := Lib.hid (HG.out.to HB1.out)
      refine (app10 w.heap.size (n / 256 % 256) ((n : Int) / 256 % 256) (by omega) (by omega) _ _ (by have := HLE.out; simp; omega) _ HO1.out HB1.out.size HG1.out).mono ?_
      rintro e w2 ⟨v2, rfl, ho, hb⟩
      have HO2 := Lib.hid ho
      have HB2 := Lib.hid (HB1.out.trans hb)
      have HG2 := Lib.hid (HG.out.to HB2.out)
      clear ho hb
      go_wp2_with fail
      go_roundw
      case rel => exact ⟨3, by omega, rfl, by rw [pre4_2]; exact HO2.out, HG2.out, HB2.out⟩
      case measure => simp [intOf]
    · have ki : ∀ W, (Instr.index 57 (.agg #[.int .u8 ((n : Int) / 16777216), .int .u8 ((n : Int) / 65536 % 256), .int .u8 ((n : Int) / 256 % 256), .int .u8 ((n : Int) % 256)]) (.int .i64 3)).run Tryd.prog W = .ok (.int .u8 ((n : Int) % 256)) W := fun W => run_index4 _ 3 _ (by omega) rfl rfl W
      have hle : (pre4 n 3).length ≤ 12 := HL.out
      have HLE := Lib.hid hle
      clear hle
      go_wp2_with (at_builtin; refine wpList_append_own _ rfl _ _ 56 rfl w.heap.size 5 i0 (.int .u8 0) 1 1 Tryd.underlying56 hi hz0 hz1 hz2 rfl (by decide) _ _ _ rfl (HO.out.alloc _) ⟨wr.heap.size, 0, none⟩ 1 1 [.int .u8 46] rfl rfl (lit_one _ _) (one_cell _) (by have := HLE.out; unfold maxLen; omega) (by have := HLE.out; omega) (by have := HB.out.size; simp; omega) ?_; intro v' w1 hown' hgrow _; have HO1 := Lib.hid hown'; clear hown'; have HW := Lib.hid hgrow; clear hgrow)
      have HO1 := Lib.hid (own_snoc (c := 46) HO1.out)
      have HB1 := Lib.hid ((HB.out.alloc HB.out.size _).grown HW.out (by have := HB.out.size; simp; omega) (fun k hk => (HO.out.lt k hk).1))
      have HG1 := Lib.hid (HG.out.to HB1.out)
      refine (app10 w.heap.size (n % 256) ((n : Int) % 256) (by omega) (by omega) _ _ (by have := HLE.out; simp; omega) _ HO1.out HB1.out.size HG1.out).mono ?_
      rintro e w2 ⟨v2, rfl, ho, hb⟩
      have HO2 := Lib.hid ho
      have HB2 := Lib.hid (HB1.out.trans hb)
      have HG2 := Lib.hid (HG.out.to HB2.out)
      clear ho hb
      go_wp2_with fail
      go_roundw
      case rel => exact ⟨4, by omega, rfl, by rw [pre4_3]; exact HO2.out, HG2.out, HB2.out⟩
      case measure => simp [intOf]
    · have kb := own_back (P := Tryd.prog) HO.out Tryd.underlying56 Tryd.underlying5 Tryd.underlying9
      go_wp2_with fail
      go_ret
      exact ⟨rfl, HB.out⟩
end Go.Proofs.YtflddokngplgiaaDoor
