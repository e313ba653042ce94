import Derived.Test.YthdodmbopchfdaaPC
import Derived.Deep.RegionHeld3
import Derived.Deep.AppendLies
import Derived.Deep.DrawnRows
namespace Go.Proofs.Ythdodmbopchfdaa
open Go.RowKit P
theorem infoByte0 : (Try.prog.info? 5).map (fun i => (i.zero, i.size, i.bytes)) = some (some (.int .u8 0), 1, 1) := by kernel_rfl
/-- bytes of the call's own, as numbers -/
abbrev OwnB (w : World) (B : Nat) (v : Value) (l : List Int) : Prop := w.ownsRow B 5 1 v l.length (l.map (Value.int .u8))
theorem OwnB.form {w : World} {B : Nat} {v : Value} {l : List Int} (h : OwnB w B v l) : ∃ p cap, v = .slice p l.length cap := by
  rcases h.2 with ⟨rfl, hn⟩ | ⟨g, cap, cur, rfl, hB, hg, hc, _, _, ht⟩
  · exact ⟨none, 0, by rw [hn]⟩
  · exact ⟨some ⟨g, 0, none⟩, cap, rfl⟩
theorem OwnB.to {w w' : World} {B : Nat} {v : Value} {l : List Int} (h : OwnB w B v l) (hb : Below w.heap.size w w') : OwnB w' B v l := by
  refine ⟨h.1, ?_⟩
  rcases h.2 with hn | ⟨g, cap, cur, rfl, hB, hg, rest⟩
  · exact .inl hn
  · exact .inr ⟨g, cap, cur, rfl, hB, (hb.block g (Array.getElem?_eq_some_iff.1 hg).1).trans hg, rest⟩
theorem ownb_snoc {B : Nat} {v' : Value} {l : List Int} {c : Int} {w : World} (h : w.ownsRow B 5 1 v' (l.length + 1) (l.map (Value.int .u8) ++ [.int .u8 c])) : OwnB w B v' (l ++ [c]) := by
  unfold OwnB
  rw [List.length_append, List.map_append]
  exact h
theorem belb_grown {B : Nat} {w0 w w' : World} {v : Value} {l : List Int} (hb : Below B w0 w) (ho : OwnB w B v l) (hg : w.grownBy w' v.ownBlock) (hB : B ≤ w.heap.size) : Below B w0 w' :=
  hb.grown hg hB (fun k hk => (ho.lt k hk).1)
theorem lit8 (w : World) (c : Int) : ∀ j u, ([Value.int .u8 c])[j]? = some u → (w.alloc (.cells #[.int .u8 c] 5)).cell? ((⟨w.heap.size, 0, none⟩ : Addr).add j) = some u := cell_one_new w _ 5
theorem one8 (c : Int) : ∀ u ∈ [Value.int .u8 c], u.oneCell' = true := by
  intro u hu
  simp only [List.mem_singleton] at hu
  subst hu; rfl
/-- the cells of a writer -/
abbrev WC (v : Value) (n d b h p : Int) : Array Value := #[v, .int .i64 n, .int .i64 d, .int .i64 b, .int .i64 h, .int .i64 p]
/-- a writer that the call has made, in block g -/
def Wr (B g : Nat) (l : List Int) (n d b h p : Int) (w : World) : Prop := B ≤ g ∧ ∃ v, Has w g (.cells (WC v n d b h p) 37) ∧ OwnB w B v l
set_option maxHeartbeats 400000 in
theorem raise_is (B g : Nat) (l : List Int) (n d b h p by' : Int) (o : Bool) (ho : decide (d + by' ≤ 2147483647) = o) (hd0 : 0 ≤ d) (hd1 : d ≤ 4294967296) (hb0 : 0 ≤ by') (hb1 : by' ≤ 1125899906842624) (w : World) (hW : Wr B g l n d b h p w) :
    Calls Try.prog 28 #[.pointer (some ⟨g, 0, none⟩), .int .i64 by'] w fun e w' => e = .returned (.bool o) ∧ (Wr B g l n (d + by') b h p w' ∧ Below B w w') := by
  obtain ⟨hB, v, hG, hO⟩ := hW
  have c2 : w.cell? ⟨g, 2, none⟩ = some (.int .i64 d) := hG.cell 2 rfl
  have fz2 := hG.free 2
  have hgl := hG.lt
  have HG := Lib.hid (hG.set 2 (.int .i64 (d + by')))
  have HO := Lib.hid (own_set hO hG (by decide) 2 (.int .i64 (d + by')))
  have HP := Lib.hid ho
  clear hG hO ho
  go_enter Try.func28, Try.ntmps28
  go_wp2
  go_ret
  exact ⟨ret_bool HP.out, ⟨hB, v, HG.out, HO.out⟩, (Below.refl _ _).setCell (p := ⟨g, 2, none⟩) hB _⟩
theorem least_cons_take (l : List Int) (k : Nat) (h : k < l.length) (n : Int) : (l.take (k + 1)).foldl (fun m r => if n ≤ r then min m r else m) 2147483647 = if n ≤ l[k] then min ((l.take k).foldl (fun m r => if n ≤ r then min m r else m) 2147483647) l[k] else (l.take k).foldl (fun m r => if n ≤ r then min m r else m) 2147483647 := by
  rw [take_snoc l k h, List.foldl_append]; rfl
def least (n : Int) (l : List Int) : Int := l.foldl (fun m r => if n ≤ r then min m r else m) 2147483647
theorem least_take (l : List Int) (k : Nat) (h : k < l.length) (n : Int) : least n (l.take (k + 1)) = if n ≤ l[k] then min (least n (l.take k)) l[k] else least n (l.take k) := least_cons_take l k h n
set_option maxHeartbeats 1000000 in
theorem least_is (B g : Nat) (o l : List Int) (n d b h p m : Int) (hm : least n l = m) (va : Value) (hl : l.length ≤ 4096) (hwf : ∀ x ∈ l, -2147483648 ≤ x ∧ x ≤ 2147483647) (w : World) (hW : Wr B g o n d b h p w) (hA : RunesAt w va l) :
    Calls Try.prog 27 #[.pointer (some ⟨g, 0, none⟩), va] w fun e w' => e = .returned (.int .i64 m) ∧ w = w' := by
  obtain ⟨hB, v, hG, _⟩ := hW
  obtain ⟨pa, ca, rfl, hC⟩ := hA
  have c1 : w.cell? ⟨g, 1, none⟩ = some (.int .i64 n) := hG.cell 1 rfl
  have HC := Lib.hid hC
  have HM := Lib.hid hm
  have HW := Lib.hid hwf
  clear hG hC hm hwf
  go_enter Try.func27, Try.ntmps27
  go_wp2
  go_loop [5, 10] (fun x i => ∃ (k : Nat) (y : Int), k ≤ l.length ∧ i = .int .i64 k ∧ x = .int .i64 y ∧ Hid (least n (l.take k) = y)) (fun _ i => l.length - (intOf i).toNat)
  case atStart => exact ⟨0, 2147483647, by omega, rfl, rfl, Lib.hid rfl⟩
  case round =>
    obtain ⟨k, y, hk, rfl, rfl, HY⟩ := hrel
    by_cases hlt : k < l.length
    · obtain ⟨g', o', rfl, hg', hx⟩ := HC.out k l[k] (get_some hlt)
      have hw := HW.out l[k] (List.getElem_mem hlt)
      have HT := Lib.hid (least_take l k hlt n)
      generalize l[k] = r at *
      by_cases hnr : n ≤ r
      · have HT2 : Hid (least n (l.take (k + 1)) = min y r) := Lib.hid (by rw [HT.out, if_pos hnr, HY.out])
        clear HT HY
        by_cases hyr : y ≤ r
        · have HT3 : Hid (least n (l.take (k + 1)) = y) := Lib.hid (by rw [HT2.out]; omega)
          clear HT2
          go_wp2
          go_round
          case rel => exact ⟨k + 1, y, by omega, by go_num, by go_num, HT3⟩
          case measure => simp [intOf]; omega
        · have HT3 : Hid (least n (l.take (k + 1)) = r) := Lib.hid (by rw [HT2.out]; omega)
          clear HT2
          go_wp2
          go_round
          case rel => exact ⟨k + 1, r, by omega, by go_num, by go_num, HT3⟩
          case measure => simp [intOf]; omega
      · have HT2 : Hid (least n (l.take (k + 1)) = y) := Lib.hid (by rw [HT.out, if_neg hnr, HY.out])
        clear HT HY
        go_wp2
        go_round
        case rel => exact ⟨k + 1, y, by omega, by go_num, rfl, HT2⟩
        case measure => simp [intOf]; omega
    · have HF := Lib.hid (show y = m by rw [← HY.out, ← HM.out, List.take_of_length_le (by omega)])
      go_wp2
      go_ret
      exact ⟨ret_int HF.out, rfl⟩
end Go.Proofs.Ythdodmbopchfdaa
