import Derived.Test.YtamhmpgaapgmbaaDoorA20
namespace Go.Proofs.YtamhmpgaapgmbaaDoor
open Go.RowKit
theorem size26 : (Tryd.prog.info? 26).map (·.size) = some 1 := by
  obtain ⟨i0, hi, hz0, hz1, hz2⟩ := info_parts info26
  rw [hi]; simp [hz1]
theorem u16_one (l : List Nat) : ∀ u ∈ l.map u16V, u.oneCell' = true := by
  intro u hu
  obtain ⟨x, _, rfl⟩ := List.mem_map.1 hu
  rfl
theorem own_cells {w : World} {B : Nat} {v : Value} {xs : List Nat} (h : w.ownsRow B 26 1 v xs.length (xs.map u16V)) : (xs = [] ∧ ∃ a n c, v = .slice a n c ∧ n = 0) ∨ ∃ g c, v = .slice (some ⟨g, 0, none⟩) xs.length c ∧ ∀ j u, (xs.map u16V)[j]? = some u → w.cell? ⟨g, j, none⟩ = some u := by
  rcases h.2 with ⟨rfl, hn⟩ | ⟨g, cap, cur, rfl, hB, hg, hc, _, _, ht⟩
  · exact .inl ⟨List.eq_nil_of_length_eq_zero hn, _, _, _, rfl, rfl⟩
  · refine .inr ⟨g, cap, rfl, fun j u hj => ?_⟩
    have hjl := (List.getElem?_eq_some_iff.1 hj).1
    rw [h.cellAt j (by simpa using hjl)]
    exact hj
/-- copy of pieces into an array of the call's own -/
theorem copy_arr (g l : Nat) (cs xs : List Nat) (hcs : cs.length = 8) (W : World) (hH : Has W g (.cells (A8 cs) 27)) (B : Nat) (v : Value) (hv : W.ownsRow B 26 1 v xs.length (xs.map u16V)) (hl : l + xs.length ≤ 8) :
    ∃ W', (Builtin.copy_ #[49, 49] 3 #[arrS g l 8, v]).run Tryd.prog W = .ok (.int .i64 xs.length) W' ∧ Hid (Has W' g (.cells (A8 (cs.take l ++ xs ++ cs.drop (l + xs.length))) 27) ∧ (∀ k o, k ≠ g → Has W k o → Has W' k o) ∧ (∀ B0, B0 ≤ g → Below B0 W W')) := by
  rcases own_cells hv with ⟨rfl, a, n, c, rfl, rfl⟩ | ⟨g2, c, rfl, hc⟩
  · refine ⟨W, ?_, Lib.hid ⟨by simpa using hH, fun k o _ h => h, fun B0 _ => Below.refl _ _⟩⟩
    unfold arrS
    exact run_copy_none W 49 49 3 26 _ _ _ _ _ _ Tryd.underlying49 size26 (by simp)
  · by_cases h0 : xs.length = 0
    · have hx := List.length_eq_zero_iff.1 h0
      subst hx
      refine ⟨W, ?_, Lib.hid ⟨by simpa using hH, fun k o _ h => h, fun B0 _ => Below.refl _ _⟩⟩
      unfold arrS
      exact run_copy_none W 49 49 3 26 _ _ _ _ _ _ Tryd.underlying49 size26 (by simp)
    · have e : arrS g l 8 = .slice (some ⟨g, l, none⟩) (8 - l) (8 - l) := by unfold arrS; rw [if_neg (by omega)]
      have hcz : (A8 cs).size = 8 := by rw [A8_size, hcs]
      refine ⟨W.setCells g l (xs.map u16V), ?_, Lib.hid ⟨?_, fun k o hk h => has_setCells_far _ _ _ h hk, fun B0 hB => bel_setCells _ _ _ (Below.refl _ _) hB⟩⟩
      · rw [e]
        have := run_copy_cells (P := Tryd.prog) W 49 49 3 26 g l (8 - l) (8 - l) ⟨g2, 0, none⟩ xs.length c (xs.map u16V) Tryd.underlying49 size26 (by rw [List.length_map]; exact (Nat.min_eq_left (by omega)).symm) (fun j u hj => by rw [add0, Nat.zero_add]; exact hc j u hj)
          (fun j hj => by rw [hH.cell (l + j) (Array.getElem?_eq_getElem (by rw [List.length_map] at hj; omega))]; rfl) (fun j hj => hH.free _) (u16_one xs)
        rw [List.length_map] at this
        exact this
      · have := has_setCells (xs.map u16V) l W (A8 cs) hH (by rw [List.length_map]; omega)
        have e2 : ((A8 cs).toList.take l ++ xs.map u16V ++ (A8 cs).toList.drop (l + (xs.map u16V).length)).toArray = A8 (cs.take l ++ xs ++ cs.drop (l + xs.length)) := by
          simp [A8, u16V]
        rw [e2] at this
        exact this
theorem Z8_one : Z8.all (·.oneCell') = true := A8_one [0, 0, 0, 0, 0, 0, 0, 0]
def zer8 : List Nat := [0, 0, 0, 0, 0, 0, 0, 0]
/-- an address of which some pieces are left out -/
def shortP (a b : List UInt8) : Option (List Nat) := match pcs a with
  | none => none
  | some x => match pcs (mixL b) with
    | none => none
    | some y => if x.length + y.length ≤ 7 then some (x ++ List.replicate (8 - x.length - y.length) 0 ++ y) else none
/-- an array and a bool -/
def arrB (o : Option (List Nat)) : Ending := match o with
  | none => .returned (.tuple #[.agg Z8, .bool false])
  | some l => .returned (.tuple #[.agg (A8 l), .bool true])
theorem results_arr {fn : Func} {p q : Tmp} (h : fn.results = #[.cell p 27, .tmp q]) (tmps : Array Value) (w : World) (g : Nat) (cs : Array Value)
    (hp : tmps.getD p undef = .pointer (some ⟨g, 0, none⟩)) (hg : Has w g (.cells cs 27)) (hi : cs.size = 8) :
    (results fn tmps).run Tryd.prog w = .ok (.tuple #[.agg cs, tmps.getD q undef]) w := by
  have hp' : tmps[p]?.getD undef = .pointer (some ⟨g, 0, none⟩) := by simpa using hp
  simp [results, h, hp', asAddr, run_loadVar_row w g 27 27 cs (0, 0) _ hg Tryd.underlying27 rfl (by rw [hi]; exact info27)]
theorem mix_len (l : List UInt8) : (mixL l).length ≤ l.length + 10 := by
  unfold mixL
  split
  · rename_i n hv
    split
    · have hn := v4O_lt hv
      have h1 := txtP_len [n / 65536, n % 65536] (fun x hx => by simp at hx; omega)
      have h2 := List.length_take_le (l.length - (lastP 58 l).length) l
      rw [List.length_append]
      simp only [List.length_cons, List.length_nil] at h1
      omega
    · omega
  · omega
set_option maxHeartbeats 8000000 in
set_option maxRecDepth 100000 in
theorem short_no1 (a b : ByteArray) (ha : a.size ≤ 500) (w : World) (hG : Glob w) (h : pcs a.data.toList = none) :
    Calls Tryd.prog 42 #[.string a, .string b] w fun e w' => e = arrB none ∧ Below w.heap.size w w' := by
  have HC := Lib.hid (pieces_is a (by omega) _ (hG.to (bnew w (.cells Z8 27))))
  have HP := Lib.hid h
  clear hG h
  go_enter Tryd.func42, Tryd.ntmps42
  go_wp2_with fail
  refine HC.out.mono ?_
  rintro e w1 ⟨he, hb⟩
  rw [HP.out] at he
  subst he
  have hH := Has.to (Has.new w (.cells Z8 27)) hb
  have HB := Lib.hid (bel2 (bnew w (.cells Z8 27)) hb)
  have HH := Lib.hid hH
  clear hb hH
  go_wp2_with (refine wpList_store_row rfl 27 (.tmp 4) (.tmp 17) rfl w.heap.size Z8 rfl rfl 27 Z8 HH.out info27 rfl Z8_one ?_)
  exact bodyPost_ret (results_arr rfl _ _ w.heap.size Z8 rfl (setRow_heap _ _ _ _ 27 (0, 0) HH.out) rfl) rfl ⟨rfl, below_setRow HB.out (Nat.le_refl _) _⟩
theorem mix_size (b : ByteArray) (hb : b.size ≤ 500) : (⟨(mixL b.data.toList).toArray⟩ : ByteArray).size ≤ 1000 := by
  have h1 := mix_len b.data.toList
  have e : (⟨(mixL b.data.toList).toArray⟩ : ByteArray).size = (mixL b.data.toList).length := by simp [ByteArray.size]
  rw [len_list] at h1
  rw [e]; omega
end Go.Proofs.YtamhmpgaapgmbaaDoor
