import Derived.Test.YtamhmpgaapgmbaaDoorA2b
import Derived.Test.YtamhmpgaapgmbaaDoorA2c
import Derived.Test.YtamhmpgaapgmbaaDoorShelf
namespace Go.Proofs.YtamhmpgaapgmbaaDoor
open Go.RowKit
/-- what the package's variables hold, and those of the library that are read -/
structure Glob (w : World) : Prop where
  dec0 : w.cell? ⟨0, 0, none⟩ = some (.int .u8 48)
  dec1 : w.cell? ⟨0, 1, none⟩ = some (.int .u8 57)
  oct0 : w.cell? ⟨1, 0, none⟩ = some (.int .u8 48)
  oct1 : w.cell? ⟨1, 1, none⟩ = some (.int .u8 55)
  sm0 : w.cell? ⟨2, 0, none⟩ = some (.int .u8 97)
  sm1 : w.cell? ⟨2, 1, none⟩ = some (.int .u8 102)
  gr0 : w.cell? ⟨3, 0, none⟩ = some (.int .u8 65)
  gr1 : w.cell? ⟨3, 1, none⟩ = some (.int .u8 70)
  mlen : ∃ m, w.cell? ⟨4, 0, none⟩ = some (.int .i64 m)
  err : ∃ v, w.cell? ⟨9, 0, none⟩ = some v ∧ (v = .nilIface ∨ ∃ te pe, v = .iface te pe)
  pow : ∀ w', Below w.heap.size w w' → Lib.TabIs Tryd.prog w' "internal/strconv.uint64pow10" .u64 Lib.pow10Tab
  bru : w.cell? ⟨11, 15, none⟩ = some (.int .u8 4)
  lt : 12 ≤ w.heap.size
theorem Glob.to {w w' : World} (h : Glob w) (hb : Below w.heap.size w w') : Glob w' := by
  have hl := h.lt
  have c : ∀ (g i : Nat) (v : Value), g < 12 → w.cell? ⟨g, i, none⟩ = some v → w'.cell? ⟨g, i, none⟩ = some v := fun g i v hg hc => (hb.cell (p := ⟨g, i, none⟩) (by show g < _; omega)).trans hc
  exact ⟨c _ _ _ (by omega) h.dec0, c _ _ _ (by omega) h.dec1, c _ _ _ (by omega) h.oct0, c _ _ _ (by omega) h.oct1, c _ _ _ (by omega) h.sm0, c _ _ _ (by omega) h.sm1, c _ _ _ (by omega) h.gr0, c _ _ _ (by omega) h.gr1,
    h.mlen.elim fun m hm => ⟨m, c _ _ _ (by omega) hm⟩, h.err.elim fun v hv => ⟨v, c _ _ _ (by omega) hv.1, hv.2⟩, fun w2 h2 => h.pow w2 (hb.trans (h2.mono hb.size)), c _ _ _ (by omega) h.bru, Nat.le_trans hl hb.size⟩
theorem Glob.dn {w : World} (h : Glob w) (n : Nat) : Glob (w.drewN n) := h.to (below_dn (Below.refl _ _) n)
set_option maxHeartbeats 1000000 in
set_option maxRecDepth 100000 in
theorem pub_any (t : ByteArray) (hmax : t.size ≤ 140737488355328) (base : Int) (n : Nat) (w : World) (hG : Glob w)
    (hc : Calls Tryd.prog 66 #[.string t, .int .i64 base, .int .i64 64] w fun e w' => PuRet n e ∧ w' = Lib.bytesWorld w 5 t) :
    Calls Tryd.prog 54 #[.string t, .int .i64 base, .int .i64 64] w fun e w' => (∃ v, e = .returned (.tuple #[.int .u64 n, v])) ∧ Below w.heap.size w w' := by
  have HG := Lib.hid hG
  clear hG
  go_enter Tryd.func54, Tryd.ntmps54
  go_wp2_with fail
  refine hc.mono ?_
  rintro e w1 ⟨⟨v, rfl, hv⟩, hw⟩
  have hb := bel_bytes w t
  rw [← hw] at hb
  have HB := Lib.hid hb
  have HG1 := Lib.hid (HG.out.to hb)
  clear hw hb
  rcases hv with rfl | rfl
  · go_wp2_with fail
    go_ret2
    exact ⟨⟨_, rfl⟩, HB.out⟩
  · obtain ⟨ev, he1, he2⟩ := HG1.out.err
    have HC := Lib.hid (Tryd.strconv_toError_range ⟨#[80, 97, 114, 115, 101, 85, 105, 110, 116]⟩ t base 64 ev w1 (by omega) he1 he2)
    clear he1 he2
    go_wp2_with fail
    refine HC.out.mono ?_
    rintro e w2 ⟨N, rfl, h1, h2, h3⟩
    have HB2 := Lib.hid (HB.out.trans (h3.mono HB.out.size))
    clear h2 h3 h1
    go_wp2_with fail
    go_ret2
    exact ⟨⟨_, rfl⟩, HB2.out⟩
/-- what 'value' answers: 0 and false, or the number and true -/
def valT (o : Option Nat) : Value := match o with
  | none => .tuple #[.int .u64 0, .bool false]
  | some n => .tuple #[.int .u64 n, .bool true]
theorem two_mono {P : World → Prop} {e : Ending} {w : World} (h : P w) : P w := h
set_option maxHeartbeats 1000000 in
set_option maxRecDepth 100000 in
theorem value_no (t : ByteArray) (hmax : t.size ≤ 140737488355328) (base : Int) (g : Nat) (ks : List Kd) (n cp : Nat) (hn : n = ks.length) (h8 : n ≤ 8) (w : World) (hk : Kinds w g ks) (hm : madeL ks t.data.toList = false) :
    Calls Tryd.prog 39 #[.string t, .int .i64 base, .slice (some ⟨g, 0, none⟩) n cp] w fun e w' => e = .returned (.tuple #[.int .u64 0, .bool false]) ∧ Below w.heap.size w w' := by
  have HC := Lib.hid (made_any t hmax g ks n cp hn h8 w hk)
  have HM := Lib.hid hm
  clear hn hk hm
  go_enter Tryd.func39, Tryd.ntmps39
  go_wp2_with fail
  refine HC.out.mono ?_
  rintro e w1 ⟨rfl, hb⟩
  have HB := Lib.hid hb
  clear hb
  rw [HM.out]
  go_wp2_with fail
  go_ret2
  exact ⟨rfl, HB.out⟩
set_option maxHeartbeats 1000000 in
set_option maxRecDepth 100000 in
theorem value_yes (t : ByteArray) (hmax : t.size ≤ 140737488355328) (base : Int) (v : Nat) (g : Nat) (ks : List Kd) (n cp : Nat) (hn : n = ks.length) (h8 : n ≤ 8) (w : World) (hG : Glob w) (hk : Kinds w g ks) (hm : madeL ks t.data.toList = true)
    (hc : ∀ w, Calls Tryd.prog 66 #[.string t, .int .i64 base, .int .i64 64] w fun e w' => PuRet v e ∧ w' = Lib.bytesWorld w 5 t) :
    Calls Tryd.prog 39 #[.string t, .int .i64 base, .slice (some ⟨g, 0, none⟩) n cp] w fun e w' => e = .returned (.tuple #[.int .u64 v, .bool true]) ∧ Below w.heap.size w w' := by
  have HC := Lib.hid (made_any t hmax g ks n cp hn h8 w hk)
  have HM := Lib.hid hm
  have HG := Lib.hid hG
  have HP := Lib.hid hc
  clear hn hk hm hG hc
  go_enter Tryd.func39, Tryd.ntmps39
  go_wp2_with fail
  refine HC.out.mono ?_
  rintro e w1 ⟨rfl, hb⟩
  have HB := Lib.hid hb
  have HG1 := Lib.hid (HG.out.to hb)
  clear hb
  rw [HM.out]
  go_wp2_with fail
  refine (pub_any t hmax base v _ HG1.out (HP.out _)).mono ?_
  rintro e w2 ⟨⟨x, rfl⟩, hb⟩
  have HB2 := Lib.hid (bel2 HB.out hb)
  clear hb
  go_wp2_with fail
  go_ret2
  exact ⟨rfl, HB2.out⟩
end Go.Proofs.YtamhmpgaapgmbaaDoor
