import Derived.Test.YtamhmpgaapgmbaaDoorA24
import Derived.Test.YtamhmpgaapgmbaaDoorM4
namespace Go.Proofs.YtamhmpgaapgmbaaDoor
open Go.RowKit
theorem v4O_ans (o : Option Nat) : (∃ n, o = some n) ∨ o = none := by cases o with
  | none => exact .inr rfl
  | some n => exact .inl ⟨n, rfl⟩
theorem ne8 (l m : List Nat) (hl : l.length = 8) (hm : m.length = 8) (bl : ∀ x ∈ l, x < 65536) (bm : ∀ x ∈ m, x < 65536) (W : World) : (binOp .neq 27 (.agg (A8 l)) (.agg (A8 m))).run Tryd.prog W = .ok (.bool (!decide (l = m))) W := by
  have h := eq8 l m hl hm bl bm W
  rw [run_eql_struct] at h
  rw [run_neq_struct]
  revert h
  generalize (Op.equalIn 10000 27 (.agg (A8 l)) (.agg (A8 m))).run Tryd.prog W = r
  intro h
  cases r <;> simp_all [Result.andThen]
theorem A8_six (n : Nat) : A8 [0, 0, 0, 0, 0, 0, n / 65536, n % 65536] = #[Value.int .u16 0, Value.int .u16 0, Value.int .u16 0, Value.int .u16 0, Value.int .u16 0, Value.int .u16 0, Value.int .u16 ((n : Int) / 65536), Value.int .u16 (IntKind.u16.wrap (n : Int))] := by
  have : IntKind.u16.wrap (n : Int) = ((n % 65536 : Nat) : Int) := by simp [IntKind.wrap, show IntKind.u16.signed = false from rfl, show IntKind.u16.bits = 16 from rfl]
  rw [this]; simp [A8]
set_option maxHeartbeats 1000000 in
set_option maxRecDepth 100000 in
theorem AddrForms_walk (n : Nat) (hn : n < 4294967296) (a : ByteArray) (hs : a.size ≤ 140737488351232) (w : World) (hG : Glob w) :
    Calls Tryd.prog 6 #[.int .u32 n, .string a] w fun e w' => e = .returned (.bool true) ∧ Below w.heap.size w w' := by
  have HG := Lib.hid hG
  obtain ⟨t, ht⟩ : ∃ t : ByteArray, (⟨(tv4 n).toArray⟩ : ByteArray) = t := ⟨_, rfl⟩
  have HT := Lib.hid ht
  have htl : t.data.toList = tv4 n := by rw [← ht]
  have hts : t.size ≤ 15 := by rw [← ht, ba_size]; exact tv4_len hn
  obtain ⟨d, hd⟩ : ∃ d : ByteArray, t ++ (⟨#[46]⟩ : ByteArray) = d := ⟨_, rfl⟩
  obtain ⟨c, hc⟩ : ∃ c : ByteArray, (⟨#[58, 58]⟩ : ByteArray) ++ t = c := ⟨_, rfl⟩
  have HD := Lib.hid hd
  have HC := Lib.hid hc
  have dl : d.data.toList = tv4 n ++ [46] := by rw [← hd, ByteArray.data_append, Array.toList_append, htl]
  have cl : c.data.toList = 58 :: 58 :: tv4 n := by rw [← hc, ByteArray.data_append, Array.toList_append, htl]; rfl
  have HDS := Lib.hid (show d.size ≤ 140737488355328 by rw [← hd, ByteArray.size_append]; show t.size + 1 ≤ _; omega)
  have HCS := Lib.hid (show c.size ≤ 140737488355328 by rw [← hc, ByteArray.size_append]; show 2 + t.size ≤ _; omega)
  have HV := Lib.hid (show v4O d.data.toList = some n by rw [dl]; exact v4_back_dot hn)
  have H6 := Lib.hid (show v6P c.data.toList = some [0, 0, 0, 0, 0, 0, n / 65536, n % 65536] by rw [cl]; exact v6_mapped hn)
  have q1 : ¬ 9223372036854775807 < t.size + 1 := by omega
  have q2 : ¬ 9223372036854775807 < 2 + t.size := by omega
  clear hG ht hd hc dl cl htl hts
  go_enter Tryd.func6, Tryd.ntmps6
  go_wp2_with fail
  refine (lives_is _ HG.out).mono ?_
  rintro e w1 ⟨rfl, hb⟩
  have HB1 := Lib.hid hb
  have HG1 := Lib.hid (HG.out.to hb)
  clear hb
  go_wp2_with fail
  refine (textV4_is n hn _ HG1.out).mono ?_
  rintro e w2 ⟨rfl, hb⟩
  have HB2 := Lib.hid (bel2 HB1.out hb)
  have HG2 := Lib.hid (HG1.out.to hb)
  clear hb
  rw [HT.out]
  go_wp2_with fail
  rw [HD.out]
  refine (v4_is d HDS.out _ HG2.out).mono ?_
  rintro e w3 ⟨he, hb⟩
  rw [HV.out] at he
  subst he
  have HB3 := Lib.hid (bel2 HB2.out hb)
  have HG3 := Lib.hid (HG2.out.to hb)
  clear hb
  simp only [ansE]
  go_wp2_with fail
  rw [HC.out]
  refine (v6_is c HCS.out _ HG3.out).mono ?_
  rintro e w4 ⟨he, hb⟩
  rw [H6.out] at he
  subst he
  have HB4 := Lib.hid (bel2 HB3.out hb)
  have HG4 := Lib.hid (HG3.out.to hb)
  clear hb
  simp only [v6E]
  obtain ⟨m8, hm8⟩ : ∃ m8, [0, 0, 0, 0, 0, 0, n / 65536, n % 65536] = m8 := ⟨_, rfl⟩
  have HM := Lib.hid hm8
  rw [hm8]
  have HS8 := Lib.hid (show (A8 m8).size = 8 by rw [← hm8]; rfl)
  have hml : m8.length = 8 := by rw [← hm8]; rfl
  have hmb : ∀ x ∈ m8, x < 65536 := by rw [← hm8]; intro x hx; simp at hx; omega
  have hA8 : A8 m8 = #[Value.int .u16 0, Value.int .u16 0, Value.int .u16 0, Value.int .u16 0, Value.int .u16 0, Value.int .u16 0, Value.int .u16 ((n : Int) / 65536), Value.int .u16 (IntKind.u16.wrap (n : Int))] := by rw [← hm8]; exact A8_six n
  have keq : ∀ W, (binOp .neq 27 (.agg (A8 m8)) (.agg #[Value.int .u16 0, Value.int .u16 0, Value.int .u16 0, Value.int .u16 0, Value.int .u16 0, Value.int .u16 0, Value.int .u16 ((n : Int) / 65536), Value.int .u16 (IntKind.u16.wrap (n : Int))])).run Tryd.prog W = .ok (.bool false) W := fun W => by
    rw [← hA8, ne8 m8 m8 hml hml hmb hmb W]; simp
  clear hm8 hml hmb hA8
  have HN5 := Lib.hid (Has.new w4 (.cells Z8 27))
  have HR5 := Lib.hid (show Has ((w4.alloc (.cells Z8 27)).setRow w4.heap.size (A8 m8)) w4.heap.size (.cells (A8 m8) 27) from setRow_heap _ _ _ _ 27 (0, 0) HN5.out)
  have HB5 := Lib.hid (below_setRow (HB4.out.alloc HB4.out.size (.cells Z8 27)) HB4.out.size (A8 m8))
  have HG5 := Lib.hid (HG.out.to HB5.out)
  go_wp2_with (first
    | (refine wpList_store_row rfl 27 (.tmp 8) (.tmp 28) rfl w4.heap.size (A8 m8) rfl rfl 27 Z8 HN5.out (by rw [HS8.out]; exact info27) (by rw [HS8.out]; rfl) (A8_one m8) ?_)
    | (refine gload rfl 27 (.tmp 8) rfl w4.heap.size rfl 27 (A8 m8) _ HR5.out Tryd.underlying27 rfl (by rw [HS8.out]; exact info27) ?_))
  refine (v4_is a (by omega) _ HG5.out).mono ?_
  rintro e w6 ⟨rfl, hb⟩
  have HB6 := Lib.hid (bel2 HB5.out hb)
  have HG6 := Lib.hid (HG5.out.to hb)
  clear hb keq
  rcases v4O_ans (v4O a.data.toList) with ⟨m, hm⟩ | hm
  · have hml := v4O_lt hm
    have HE := Lib.hid (ends_of_v4 hm)
    rw [hm]
    clear hm
    simp only [ansE]
    go_wp2_with fail
    refine (textV4_is m hml _ HG6.out).mono ?_
    rintro e w7 ⟨rfl, hb⟩
    have HB7 := Lib.hid (bel2 HB6.out hb)
    have HG7 := Lib.hid (HG6.out.to hb)
    clear hb
    go_wp2_with fail
    refine (v4_is ⟨(tv4 m).toArray⟩ (by rw [ba_size]; have := tv4_len hml; omega) _ HG7.out).mono ?_
    rintro e w8 ⟨rfl, hb⟩
    have HB8 := Lib.hid (bel2 HB7.out hb)
    have HG8 := Lib.hid (HG7.out.to hb)
    clear hb
    rw [show v4O (⟨(tv4 m).toArray⟩ : ByteArray).data.toList = some m from v4_back hml]
    simp only [ansE]
    go_wp2_with fail
    refine (ends_is a (by omega) _ HG8.out).mono ?_
    rintro e w9 ⟨rfl, hb⟩
    have HB9 := Lib.hid (bel2 HB8.out hb)
    clear hb
    rw [HE.out]
    go_wp2_with fail
    go_ret
    exact ⟨rfl, HB9.out⟩
  · rw [hm]
    clear hm
    simp only [ansE]
    go_wp2_with fail
    go_ret
    exact ⟨rfl, HB6.out⟩
end Go.Proofs.YtamhmpgaapgmbaaDoor
