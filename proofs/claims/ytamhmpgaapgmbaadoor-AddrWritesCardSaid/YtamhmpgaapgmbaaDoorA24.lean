import Derived.Test.YtamhmpgaapgmbaaDoorM1
namespace Go.Proofs.YtamhmpgaapgmbaaDoor
open Go.RowKit
theorem gload {P : Program} {w : World} {ops : Array Oper} {rest : List Oper} {o : Oper} {a : Act} {Q : Exit → Act → World → Prop} (hgd : Region.wanted o (yielded ops a.tmps) = true) (ty : TypeId) (x : Operand) (ho : o.op = .load ty x)
    (g : Nat) (hx : a.eval x = .pointer (some ⟨g, 0, none⟩)) (t : TypeId) (cs : Array Value) (d : TypeDesc) (hg : w.heap[g]? = some (.cells cs t (0, 0)))
    (hu : P.underlying ty = some d) (hd : (match d with | .struct _ | .array _ _ => true | _ => false) = true) (hi : (P.info? ty).map (·.size) = some cs.size)
    (h : wpList P ops Q rest (a.put o.dst (.agg cs)) w) : wpList P ops Q (o :: rest) a w := by
  refine wpList_step fun K hK => ?_
  rw [if_pos hgd]
  exact wp_load_row ty x ho g hx t cs (0, 0) d hg hu hd hi (hK _ _ h)
abbrev lx : List Nat := [1, 0, 0, 2, 0, 0, 0, 3]
abbrev LX : Array Value := #[.int .u16 1, .int .u16 0, .int .u16 0, .int .u16 2, .int .u16 0, .int .u16 0, .int .u16 0, .int .u16 3]
theorem LXe : A8 lx = LX := rfl
set_option maxHeartbeats 16000000 in
set_option maxRecDepth 100000 in
theorem lives_is (w : World) (hG : Glob w) : Calls Tryd.prog 14 #[] w fun e w' => e = .returned (.bool true) ∧ Below w.heap.size w w' := by
  have HG := Lib.hid hG
  clear hG
  go_enter Tryd.func14, Tryd.ntmps14
  go_wp2_with fail
  refine (v4_is ⟨#[48, 120, 55, 102, 46, 49]⟩ (by decide) _ HG.out).mono ?_
  rintro e w1 ⟨rfl, hb⟩
  have HB1 := Lib.hid hb
  have HG1 := Lib.hid (HG.out.to hb)
  clear hb
  rw [show v4O (⟨#[48, 120, 55, 102, 46, 49]⟩ : ByteArray).data.toList = some 2130706433 from lv1]
  simp only [ansE]
  go_wp2_with fail
  refine (v4_is ⟨#[49, 46, 50, 46, 51, 46, 50, 53, 54]⟩ (by decide) _ HG1.out).mono ?_
  rintro e w2 ⟨rfl, hb⟩
  have HB2 := Lib.hid (bel2 HB1.out hb)
  have HG2 := Lib.hid (HG1.out.to hb)
  clear hb
  rw [show v4O (⟨#[49, 46, 50, 46, 51, 46, 50, 53, 54]⟩ : ByteArray).data.toList = none from lv2]
  simp only [ansE]
  go_wp2_with fail
  refine (v6_is ⟨#[49, 58, 48, 58, 48, 58, 50, 58, 48, 58, 48, 58, 48, 58, 51]⟩ (by decide) _ HG2.out).mono ?_
  rintro e w3 ⟨rfl, hb⟩
  have HB3 := Lib.hid (bel2 HB2.out hb)
  have HG3 := Lib.hid (HG2.out.to hb)
  clear hb
  rw [show v6P (⟨#[49, 58, 48, 58, 48, 58, 50, 58, 48, 58, 48, 58, 48, 58, 51]⟩ : ByteArray).data.toList = some lx from lv3]
  simp only [v6E, LXe]
  have HH := Lib.hid (Has.new w3 (.cells Z8 27))
  have HH4 := Lib.hid (show Has ((w3.alloc (.cells Z8 27)).setRow w3.heap.size LX) w3.heap.size (.cells LX 27) from setRow_heap _ _ _ _ 27 (0, 0) HH.out)
  have HB4 := Lib.hid (below_setRow (HB3.out.alloc HB3.out.size (.cells Z8 27)) HB3.out.size LX)
  have HG4 := Lib.hid (HG.out.to HB4.out)
  go_wp2_with (first
    | (refine wpList_store_row rfl 27 (.tmp 5) (.tmp 17) rfl w3.heap.size LX rfl rfl 27 Z8 HH.out info27 rfl (A8_one lx) ?_)
    | (refine gload rfl 27 (.tmp 5) rfl w3.heap.size rfl 27 LX _ HH4.out Tryd.underlying27 rfl info27 ?_))
  refine (textV6_is lx rfl (by decide) _ HG4.out).mono ?_
  rintro e w5 ⟨rfl, hb⟩
  have HB5 := Lib.hid (bel2 HB4.out hb)
  have HG5 := Lib.hid (HG4.out.to hb)
  clear hb
  rw [lv4]
  go_wp2_with fail
  refine (textV4_is 2130706433 (by omega) _ HG5.out).mono ?_
  rintro e w6 ⟨rfl, hb⟩
  have HB6 := Lib.hid (bel2 HB5.out hb)
  have HG6 := Lib.hid (HG5.out.to hb)
  clear hb
  rw [lv5]
  go_wp2_with fail
  refine (ends_is ⟨#[97, 46, 49]⟩ (by decide) _ HG6.out).mono ?_
  rintro e w7 ⟨rfl, hb⟩
  have HB7 := Lib.hid (bel2 HB6.out hb)
  have HG7 := Lib.hid (HG6.out.to hb)
  clear hb
  rw [show endsB (⟨#[97, 46, 49]⟩ : ByteArray).data.toList = true from lv6]
  go_wp2_with fail
  refine (ends_is ⟨#[49, 46, 97]⟩ (by decide) _ HG7.out).mono ?_
  rintro e w8 ⟨rfl, hb⟩
  have HB8 := Lib.hid (bel2 HB7.out hb)
  clear hb
  rw [show endsB (⟨#[49, 46, 97]⟩ : ByteArray).data.toList = false from lv7]
  go_wp2_with fail
  go_ret
  exact ⟨rfl, HB8.out⟩
end Go.Proofs.YtamhmpgaapgmbaaDoor
