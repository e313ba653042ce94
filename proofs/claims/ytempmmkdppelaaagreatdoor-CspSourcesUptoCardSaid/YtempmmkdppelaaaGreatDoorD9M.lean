/-
  The contract of csp's Parse.
-/
import Derived.Test.YtempmmkdppelaaaGreatDoorLIM
import Derived.RangeFuncKeeps
namespace Go.Proofs.YtempmmkdppelaaaGreatDoor
open Go.RowKit Go.Shelf
attribute [local go_sem] Oper.semAt_some
/-- a policy as a value -/
def polV (v : Value) (rep : Bool) : Value := .agg #[v, .bool rep]
/-- what Parse answers -/
def PaRet (w : World) (rep : Bool) (st : Option (List Dir)) (e : Ending) (w' : World) : Prop :=
  (match st with
   | none => e = .returned (.tuple #[polV (.slice none 0 0) false, .int .i64 3])
   | some l => ∃ v rs, e = .returned (.tuple #[polV v rep, .int .i64 0]) ∧ OwnD w' w.heap.size v rs ∧ l = rs.map RD.dir ∧ rs.length ≤ 64) ∧ Below w.heap.size w w'
set_option maxRecDepth 100000 in
set_option maxHeartbeats 2000000 in
theorem parse_box (n : Nat) (hn : 6 ≤ n) (u : ByteArray) (rep : Bool) (hu : u.size ≤ 4096) (w : World) :
    CallsIn Fence.wide n Tryz.prog 10 #[.string u, .bool rep] w (PaRet w rep (parseD u.data.toList)) := by
  have h1 : 1 ≤ n := by omega
  refine callsIn_of_wp_marks Tryz.func10 rfl trivial ?_ rfl
  simp only [Tryz.ntmps10, List.size_toArray, List.length_cons, List.length_nil, Nat.reduceAdd, Nat.reduceSub, Array.replicate_succ, Array.replicate_zero, List.push_toArray, List.append_toArray, List.nil_append, List.cons_append]
  have g1 : decide ((4096 : Int) < (u.size : Int)) = false := by simp; omega
  gi_wp2_with (refine ⟨trivial, ?_⟩; gi_at_call 31; refine (Ks.splitseq_in 59 (n - 1) _ _).mono ?_; rintro e w' ⟨rfl, rfl⟩)
  obtain ⟨w2, hw2⟩ : ∃ w2, w2 = ((w.alloc (.cells #[.slice none 0 0, .bool false] 25)).alloc (.cells #[.int .i64 0] 26)).alloc (.cells #[.slice none 0 0, .bool rep] 25) := ⟨_, rfl⟩
  rw [← hw2]
  have z2 : w2.heap.size = w.heap.size + 1 + 1 + 1 := by rw [hw2]; simp
  have b0 : Has w2 w.heap.size (.cells #[.slice none 0 0, .bool false] 25) := by rw [hw2]; exact ((Has.new w _).alloc _).alloc _
  have b1 : Has w2 (w.heap.size + 1) (.cells #[.int .i64 0] 26) := by rw [hw2]; have := (Has.new (w.alloc (.cells #[.slice none 0 0, .bool false] 25)) (.cells #[.int .i64 0] 26)).alloc (.cells #[.slice none 0 0, .bool rep] 25); simpa using this
  have b2 : Has w2 (w.heap.size + 1 + 1) (.cells #[.slice none 0 0, .bool rep] 25) := by rw [hw2]; have := Has.new ((w.alloc (.cells #[.slice none 0 0, .bool false] 25)).alloc (.cells #[.int .i64 0] 26)) (.cells #[.slice none 0 0, .bool rep] 25); simpa using this
  have hB2 : Below w.heap.size w w2 := by rw [hw2]; exact (((Below.refl _ w).alloc (Nat.le_refl _) _).alloc (by simp) _).alloc (by simp; omega) _
  clear hw2
  obtain ⟨w3, hw3⟩ : ∃ w3, w3 = ((w2.alloc (.cells #[.string u] 9)).alloc (.cells #[.string ⟨#[59]⟩] 9)).alloc (.cells #[.int .i64 0] 3) := ⟨_, rfl⟩
  have bS : Boxed w3 (w.heap.size + 3) 9 (.string u) := by rw [hw3, show w.heap.size + 3 = w2.heap.size by omega]; exact ((Boxed.new w2 9 _).alloc _).alloc _
  have bE : Boxed w3 (w.heap.size + 4) 9 (.string ⟨#[59]⟩) := by rw [hw3, show w.heap.size + 4 = w2.heap.size + 1 by omega]; have := (Boxed.new (w2.alloc (.cells #[.string u] 9)) 9 (.string ⟨#[59]⟩)).alloc (.cells #[.int .i64 0] 3); simpa using this
  have bV : Boxed w3 (w.heap.size + 5) 3 (.int .i64 0) := by rw [hw3, show w.heap.size + 5 = w2.heap.size + 2 by omega]; have := Boxed.new ((w2.alloc (.cells #[.string u] 9)).alloc (.cells #[.string ⟨#[59]⟩] 9)) 3 (.int .i64 0); simpa using this
  have c0 : Has w3 w.heap.size (.cells #[.slice none 0 0, .bool false] 25) := by rw [hw3]; exact ((b0.alloc _).alloc _).alloc _
  have c1 : Has w3 (w.heap.size + 1) (.cells #[.int .i64 0] 26) := by rw [hw3]; exact ((b1.alloc _).alloc _).alloc _
  have c2 : Has w3 (w.heap.size + 2) (.cells #[.slice none 0 0, .bool rep] 25) := by rw [hw3]; exact ((b2.alloc _).alloc _).alloc _
  have hB3 : Below w.heap.size w w3 := by rw [hw3]; exact ((hB2.alloc (by omega) _).alloc (by simp; omega) _).alloc (by simp; omega) _
  have z3 : w3.heap.size = w.heap.size + 6 := by rw [hw3]; simp; omega
  rw [← hw3]
  clear hw3 b0 b1 b2 hB2 z2
  refine Ks.wpIn_rangeFunc_box rfl h1 (gf := 76) (lb := #[.pointer (some ⟨w.heap.size + 1 + 1 + 1 + 1, 0, none⟩), .pointer (some ⟨w.heap.size + 1 + 1 + 1, 0, none⟩), .pointer (some ⟨w.heap.size + 1 + 1 + 1 + 2, 0, none⟩)]) rfl trivial (enters_of Tryz.func76 (by kernel_rfl) rfl) (bx := w.heap.size + 3) (ks := [w.heap.size + 3, w.heap.size + 4, w.heap.size + 5]) (by simp; omega) (by simp)
    (Ks.iter_col 59 (n - 1) (by omega) _ _ _ u (by omega) w3 bS bE bV (by omega)) (fun _ => rfl)
    (fun pre W => InvP w rep (pre.map Subtype.val) W) (fun c pre W => StopP w c (pre.map Subtype.val) W) (invP_box w rep _ (by omega)) (fun c => stopP_box w c _ (by omega))
    ⟨⟨_, [], c2, ⟨World.ownsRow_nil _ _ _ _, by simp⟩, rfl, by simp⟩, hB3, c0, c1, ⟨u, bS⟩, bE, bV⟩
    (fun x => { tmps := #[.string u, .bool rep, undef, undef, .pointer (some ⟨w.heap.size, 0, none⟩), .pointer (some ⟨w.heap.size + 1, 0, none⟩), .pointer (some ⟨w.heap.size + 1 + 1, 0, none⟩), .string ⟨x.1.toArray⟩, undef, undef, undef, .string u, .int .i64 u.size, .bool false, undef, .bool rep, .agg #[.slice none 0 0, .bool rep], .string u, .func (.func 76) #[] #[.pointer (some ⟨w.heap.size + 1 + 1 + 1 + 1, 0, none⟩), .pointer (some ⟨w.heap.size + 1 + 1 + 1, 0, none⟩), .pointer (some ⟨w.heap.size + 1 + 1 + 1 + 2, 0, none⟩)], .string ⟨x.1.toArray⟩, undef, undef, undef, undef, undef, undef, undef, undef, undef, undef, undef, undef, undef, undef, undef, undef, undef, undef, undef, undef, undef, undef, undef, undef, undef, undef, undef, undef, undef, undef, undef, undef, undef, undef, undef, undef], defers := [] }) ?assign ?body ?done ?stop
  case assign =>
    intro l x W K hK
    unfold Ks.encS
    gi_wp2_with fail
    exact hK
  case body =>
    intro l pre x W hI hlt
    have HI := Lib.hid hI
    have hv0 := hI.out
    obtain ⟨v, rs, hv2, hod, hpd, hl64⟩ := hv0
    obtain ⟨y, hy⟩ : ∃ y : ByteArray, y = ⟨x.1.toArray⟩ := ⟨_, rfl⟩
    have hyl : y.data.toList = x.1 := by rw [hy]
    rw [← hy]
    have hys : y.size ≤ 2097152 := by rw [← Ks.len_list, hyl]; exact x.2
    have hmap : (pre ++ [x]).map Subtype.val = pre.map Subtype.val ++ [y.data.toList] := by simp [hyl]
    have HM := Lib.hid hmap
    have hsz := hI.b.size
    have hwl := words_len y.data.toList
    have hwz := words_size y.data.toList
    rw [Ks.len_list] at hwl hwz
    have HW := Lib.hid (words_is y hys W)
    have hst : partsD (pre.map Subtype.val ++ [y.data.toList]) = stepD (some (rs.map RD.dir)) y.data.toList := by rw [partsD_snoc, hpd]
    unfold stepD at hst
    obtain ⟨ws, hws⟩ : ∃ ws, wordsL y.data.toList = ws := ⟨_, rfl⟩
    rw [hws] at hwl hwz hst HW
    rw [← HM.out] at hst
    have HX := Lib.hid (And.intro hv2 hod)
    obtain ⟨q, c, rfl⟩ : ∃ q c, v = .slice q rs.length c := own_any hod.row
    have HS := Lib.hid hst
    have HZ := Lib.hid hwz
    have HGo := Lib.hid (show ∀ w1 : World, Below W.heap.size W w1 → partsD ((pre ++ [x]).map Subtype.val) = some (rs.map RD.dir) → KeepsOthers W w1 ∧ (∀ k ∈ [w.heap.size + 3, w.heap.size + 4, w.heap.size + 5], w1.heap[k]? = W.heap[k]?) ∧ InvP w rep ((pre ++ [x]).map Subtype.val) w1 from by
      intro w1 hb hp
      have hI := HI.out
      obtain ⟨tx, htx⟩ := hI.tx
      refine ⟨keeps_below hb, ?_, ⟨⟨_, rs, hv2.to hb, hod.to hb, hp, hl64⟩, hI.b.trans (hb.mono hI.b.size), hI.h0.to hb, hI.h1.to hb, ⟨tx, Has.to htx hb⟩, Boxed.to' hI.be hb, Boxed.to' hI.bv hb⟩⟩
      intro k hk
      simp only [List.mem_cons, List.mem_nil_iff, or_false] at hk
      rcases hk with rfl | rfl | rfl
      · exact hb.block _ (Has.lt htx)
      · exact hb.block _ hI.be.lt
      · exact hb.block _ hI.bv.lt)
    clear hv2 hod hpd hI hmap hy hyl hws hst HM hwz
    gi_wp2_with fail
    refine ⟨trivial, fun _ => by omega, ?_⟩
    refine (callsIn_wide.2 HW.out).mono ?_
    rintro e w1 ⟨A, rfl, hA, hoA, hb1⟩
    have HO := Lib.hid hoA
    have HB1 := Lib.hid hb1
    clear hoA hb1 HW
    have hk1 := HB1.out.size
    cases ws with
    | nil =>
      simp only [List.length_nil] at *
      gi_wp2_with fail
      exact HGo.out w1 HB1.out HS.out
    | cons a vs =>
      obtain ⟨k, hk⟩ : ∃ k, (a :: vs).length = k := ⟨_, rfl⟩
      have hkv : vs.length + 1 = k := by rw [← hk]; rfl
      have g0 : ((k : Int) == 0) = false := beq_eq_false_iff_ne.2 (by omega)
      rw [hk] at hwl ⊢
      have HK := Lib.hid hk
      rw [hk] at HO
      clear hk
      gi_wp2_with fail
      have HL := Lib.hid (fun (W' : World) => lower_any a (by have := HZ.out a (by simp); unfold maxLen; omega) W')
      refine wpIn_region_tail (by kernel_rfl) 7 (by decide) (fun i => if i = 6 then 9 else 25 + i) (VW A k a vs) (fun w' => Below w1.heap.size w1 w') ?hlt ?hinj (by kernel_rfl) (by kernel_rfl) (VW_mono A k a vs) (fun _ _ h h' => h.trans (h'.mono h.size)) ?h0 ?hop ?htail
      case hlt => intro i hi; simp only [List.size_toArray, List.length_cons, List.length_nil]; split <;> omega
      case hinj =>
        intro i j hi hj h
        have h : (if i = 6 then 9 else 25 + i) = (if j = 6 then 9 else 25 + j) := h
        split at h <;> split at h <;> omega
      case h0 => exact Below.drew (Below.refl _ _)
      case hop =>
        intro i o hi ho a2 w' hF hg hd
        have hcase : i = 0 ∨ i = 1 ∨ i = 2 ∨ i = 3 ∨ i = 4 ∨ i = 5 ∨ i = 6 := by omega
        have h8 : a2.eval (.tmp 8) = .slice (some ⟨A, 0, none⟩) k k := (hF.2.2 8 (fun i _ => by show (if i = 6 then 9 else 25 + i) ≠ 8; split <;> omega)).trans rfl
        have hO' : w'.ownsRow W.heap.size 9 1 (.slice (some ⟨A, 0, none⟩) k k) k ((a :: vs).map Value.string) := by have := own_to HO.out hg; rw [HK.out] at this; exact this
        have hO2 : OwnS w' W.heap.size (.slice (some ⟨A, 0, none⟩) k k) (a :: vs) := own_to HO.out hg
        have hca : w'.cell? ⟨A, 0, none⟩ = some (.string a) := by rw [hO'.cellAt 0 (by omega)]; rfl
        have HD0 := Lib.hid hd
        clear hd hF
        have HT := Lib.hid (fun o ho => strs_tail hO2 o ho)
        clear hO' hO2
        rcases hcase with rfl | rfl | rfl | rfl | rfl | rfl | rfl
        all_goals
          simp only [List.getElem?_toArray, List.getElem?_cons_zero, List.getElem?_cons_succ, Option.some.injEq] at ho
          subst ho
          have hd := HD0.out
          simp [Region.binds, VW] at hd
          refine ⟨rfl, ?_⟩
          unfold Oper.wpIn
          refine ⟨fun _ _ => trivial, ?_⟩
          rw [Oper.semAt_plain (Fence.wide.inRound l) _ _ (by intro c hc'; cases hc')]
        · simp [execOp, h8, Oper.uponIn]
          exact ⟨_, rfl, rfl, Below.refl _ _⟩
        · simp [execOp, hd]
          simp [go_sem]
          rw [if_pos (by omega : 0 < k)]
          exact ⟨_, rfl, rfl, Below.refl _ _⟩
        · simp [execOp, hd]
          simp [go_sem, hca]
          exact ⟨_, rfl, rfl, Below.refl _ _⟩
        · simp [execOp, resolve, invoke, hd]
          simp [go_sem, Oper.uponIn]
          refine ⟨fun _ => by omega, ?_⟩
          refine (callsIn_wide.2 (HL.out w')).mono ?_
          rintro e w3 ⟨rfl, hb3⟩
          exact ⟨_, rfl, rfl, hb3⟩
        · simp [execOp, h8, Oper.uponIn]
          exact ⟨_, rfl, rfl, Below.refl _ _⟩
        · simp [execOp, hd]
          simp [go_sem]
          rw [if_pos (by omega : (1 : Int) ≤ (k : Int)), show k - 1 = vs.length by omega]
          refine ⟨_, rfl, ⟨_, rfl, ?_⟩, Below.refl _ _⟩
          split
          · exact HT.out 0 (fun h => absurd (List.eq_nil_of_length_eq_zero (by omega)) h)
          · exact HT.out 1 (fun _ => rfl)
        · simp [execOp, hd, Oper.uponIn]
          exact ⟨_, rfl, rfl, Below.refl _ _⟩
      case htail =>
        intro a2 w' hF hg hv
        obtain ⟨p10, h30, hs10⟩ : ∃ p, a2.eval (.tmp 30) = .slice p vs.length vs.length ∧ Strs w' (a2.eval (.tmp 30)) vs := hv 5 (by omega)
        have ea : a2 = { tmps := #[.string u, .bool rep, undef, undef, .pointer (some ⟨w.heap.size, 0, none⟩), .pointer (some ⟨w.heap.size + 1, 0, none⟩), .pointer (some ⟨w.heap.size + 1 + 1, 0, none⟩), .string y, .slice (some ⟨A, 0, none⟩) k k, .string (lowS a), undef, .string u, .int .i64 u.size, .bool false, undef, .bool rep, .agg #[.slice none 0 0, .bool rep], .string u, .func (.func 76) #[] #[.pointer (some ⟨w.heap.size + 1 + 1 + 1 + 1, 0, none⟩), .pointer (some ⟨w.heap.size + 1 + 1 + 1, 0, none⟩), .pointer (some ⟨w.heap.size + 1 + 1 + 1 + 2, 0, none⟩)], .string y, .string y, .slice (some ⟨A, 0, none⟩) k k, .slice (some ⟨A, 0, none⟩) k k, .int .i64 k, .bool false, .slice (some ⟨A, 0, none⟩) k k, .pointer (some ⟨A, 0, none⟩), .string a, .string (lowS a), .slice (some ⟨A, 0, none⟩) k k, .slice p10 vs.length vs.length, undef, undef, undef, undef, undef, undef, undef, undef, undef, undef, undef, undef, undef, undef, undef, undef, undef, undef, undef, undef, undef, undef, undef, undef, undef], defers := [] } := (frame_act hF (fun i => ([.slice (some ⟨A, 0, none⟩) k k, .pointer (some ⟨A, 0, none⟩), .string a, .string (lowS a), .slice (some ⟨A, 0, none⟩) k k, .slice p10 vs.length vs.length, .string (lowS a)] : List Value).getD i undef) (by
          intro i hi
          have hcase : i = 0 ∨ i = 1 ∨ i = 2 ∨ i = 3 ∨ i = 4 ∨ i = 5 ∨ i = 6 := by omega
          rcases hcase with rfl | rfl | rfl | rfl | rfl | rfl | rfl
          · exact hv 0 (by omega)
          · exact hv 1 (by omega)
          · exact hv 2 (by omega)
          · exact hv 3 (by omega)
          · exact hv 4 (by omega)
          · exact h30
          · exact hv 6 (by omega))).trans (by kernel_rfl)
        rw [h30] at hs10
        have HV10 := Lib.hid hs10
        have HG := Lib.hid hg
        clear hv hF h30 hg hs10
        subst ea
        refine opsIn_cons (o := _) rfl rfl ?_
        unfold Oper.wpIn
        refine ⟨fun _ _ => trivial, ?_⟩
        rw [Oper.semAt_plain (Fence.wide.inRound l) _ _ (by intro c hc'; cases hc')]
        simp [execOp, Oper.uponIn]
        show Exit.then _ _ .normal { tmps := #[.string u, .bool rep, undef, undef, .pointer (some ⟨w.heap.size, 0, none⟩), .pointer (some ⟨w.heap.size + 1, 0, none⟩), .pointer (some ⟨w.heap.size + 1 + 1, 0, none⟩), .string y, .slice (some ⟨A, 0, none⟩) k k, .string (lowS a), .slice p10 vs.length vs.length, .string u, .int .i64 u.size, .bool false, undef, .bool rep, .agg #[.slice none 0 0, .bool rep], .string u, .func (.func 76) #[] #[.pointer (some ⟨w.heap.size + 1 + 1 + 1 + 1, 0, none⟩), .pointer (some ⟨w.heap.size + 1 + 1 + 1, 0, none⟩), .pointer (some ⟨w.heap.size + 1 + 1 + 1 + 2, 0, none⟩)], .string y, .string y, .slice (some ⟨A, 0, none⟩) k k, .slice (some ⟨A, 0, none⟩) k k, .int .i64 k, .bool false, .slice (some ⟨A, 0, none⟩) k k, .pointer (some ⟨A, 0, none⟩), .string a, .string (lowS a), .slice (some ⟨A, 0, none⟩) k k, .slice p10 vs.length vs.length, undef, undef, undef, undef, undef, undef, undef, undef, undef, undef, undef, undef, undef, undef, undef, undef, undef, undef, undef, undef, undef, undef, undef, undef, undef], defers := [] } w'
        gi_wp2_with fail
        have HW4 := Lib.hid (show Below W.heap.size W w' from HB1.out.trans (HG.out.mono hk1))
        clear HG
        have HN := Lib.hid (fun (W' : World) => mk_named (lowS a) W')
        refine wpIn_region_tail (by kernel_rfl) 4 (by decide) (fun i => 31 + i) (VN (.slice q rs.length c) (lowS a) (w.heap.size + 1 + 1)) (fun w5 => Below w'.heap.size w' w5) ?hlt ?hinj (by kernel_rfl) (by kernel_rfl) (VN_mono _ _ _) (fun _ _ h h' => h.trans (h'.mono h.size)) ?h0 ?hop ?htail
        case hlt => intro i hi; simp only [List.size_toArray, List.length_cons, List.length_nil]; omega
        case hinj => intro i j hi hj h; have h : 31 + i = 31 + j := h; omega
        case h0 => exact Below.drew (Below.refl _ _)
        case hop =>
          intro i o hi ho a2 w5 hF hg hd
          have hcase : i = 0 ∨ i = 1 ∨ i = 2 ∨ i = 3 := by omega
          have h6 : a2.eval (.tmp 6) = .pointer (some ⟨w.heap.size + 1 + 1, 0, none⟩) := (hF.2.2 6 (fun i _ => by show 31 + i ≠ 6; omega)).trans rfl
          have h9 : a2.eval (.tmp 9) = .string (lowS a) := (hF.2.2 9 (fun i _ => by show 31 + i ≠ 9; omega)).trans rfl
          have hcv : w5.cell? ⟨w.heap.size + 1 + 1, 0, none⟩ = some (.slice q rs.length c) := (((HX.out.1).to HW4.out).to hg).cell 0 rfl
          have HD0 := Lib.hid hd
          clear hd hF
          rcases hcase with rfl | rfl | rfl | rfl
          all_goals
            simp only [List.getElem?_toArray, List.getElem?_cons_zero, List.getElem?_cons_succ, Option.some.injEq] at ho
            subst ho
            have hd := HD0.out
            simp [Region.binds, VN] at hd
            refine ⟨rfl, ?_⟩
            unfold Oper.wpIn
            refine ⟨fun _ _ => trivial, ?_⟩
            rw [Oper.semAt_plain (Fence.wide.inRound l) _ _ (by intro c hc'; cases hc')]
          · simp [execOp, h6]
            simp [go_sem]
            exact ⟨_, rfl, rfl, Below.refl _ _⟩
          · simp [execOp, hd]
            simp [go_sem, hcv]
            exact ⟨_, rfl, rfl, Below.refl _ _⟩
          · simp [execOp, h9, Oper.uponIn]
            exact ⟨_, rfl, rfl, Below.refl _ _⟩
          · simp [execOp, resolve, invoke, hd]
            simp [go_sem, Oper.uponIn]
            refine ⟨fun _ => by omega, ?_⟩
            refine (callsIn_wide.2 (HN.out w5)).mono ?_
            rintro e w6 ⟨rfl, rfl⟩
            exact ⟨_, rfl, ⟨_, rfl, Boxed.new _ _ _⟩, bnew _ _⟩
        case htail =>
          intro a2 w5 hF hg hv
          obtain ⟨bx, h34, hbx⟩ : ∃ bx, a2.eval (.tmp 34) = .func (.func 57) #[] #[.pointer (some ⟨bx, 0, none⟩)] ∧ Boxed w5 bx 9 (.string (lowS a)) := hv 3 (by omega)
          have ea : a2 = { tmps := #[.string u, .bool rep, undef, undef, .pointer (some ⟨w.heap.size, 0, none⟩), .pointer (some ⟨w.heap.size + 1, 0, none⟩), .pointer (some ⟨w.heap.size + 1 + 1, 0, none⟩), .string y, .slice (some ⟨A, 0, none⟩) k k, .string (lowS a), .slice p10 vs.length vs.length, .string u, .int .i64 u.size, .bool false, undef, .bool rep, .agg #[.slice none 0 0, .bool rep], .string u, .func (.func 76) #[] #[.pointer (some ⟨w.heap.size + 1 + 1 + 1 + 1, 0, none⟩), .pointer (some ⟨w.heap.size + 1 + 1 + 1, 0, none⟩), .pointer (some ⟨w.heap.size + 1 + 1 + 1 + 2, 0, none⟩)], .string y, .string y, .slice (some ⟨A, 0, none⟩) k k, .slice (some ⟨A, 0, none⟩) k k, .int .i64 k, .bool false, .slice (some ⟨A, 0, none⟩) k k, .pointer (some ⟨A, 0, none⟩), .string a, .string (lowS a), .slice (some ⟨A, 0, none⟩) k k, .slice p10 vs.length vs.length, .pointer (some ⟨w.heap.size + 1 + 1, 0, none⟩), .slice q rs.length c, .string (lowS a), .func (.func 57) #[] #[.pointer (some ⟨bx, 0, none⟩)], undef, undef, undef, undef, undef, undef, undef, undef, undef, undef, undef, undef, undef, undef, undef, undef, undef, undef, undef, undef, undef], defers := [] } := (frame_act hF (fun i => ([.pointer (some ⟨w.heap.size + 1 + 1, 0, none⟩), .slice q rs.length c, .string (lowS a), .func (.func 57) #[] #[.pointer (some ⟨bx, 0, none⟩)]] : List Value).getD i undef) (by
            intro i hi
            have hcase : i = 0 ∨ i = 1 ∨ i = 2 ∨ i = 3 := by omega
            rcases hcase with rfl | rfl | rfl | rfl
            · exact hv 0 (by omega)
            · exact hv 1 (by omega)
            · exact hv 2 (by omega)
            · exact h34)).trans (by kernel_rfl)
          have HW5 := Lib.hid (show Below W.heap.size W w5 from HW4.out.trans (hg.mono HW4.out.size))
          have HS10 := Lib.hid (HV10.out.to hg)
          obtain ⟨r, hr⟩ : ∃ r, (rs.map RD.dir).any (isD (lowS a)) = r := ⟨_, rfl⟩
          have HC := Lib.hid (containsNamed (lowS a) bx (.slice q rs.length c) (rs.map RD.dir) r hr (by rw [List.length_map]; omega) w5 ((HX.out.2.to HW5.out).dirs) hbx)
          have HR := Lib.hid hr
          clear hv hF h34 hg hbx HV10 HW4 hr
          subst ea
          refine opsIn_cons (o := _) rfl rfl ?_
          unfold Oper.wpIn
          refine ⟨fun _ _ => trivial, ?_⟩
          rw [Oper.semAt_plain (Fence.wide.inRound l) _ _ (by intro c hc'; cases hc')]
          simp [execOp, resolve, invoke]
          simp [go_sem, Oper.uponIn]
          refine ⟨fun _ => by omega, ?_⟩
          refine (callsIn_wide.2 HC.out).mono ?_
          rintro e w6 ⟨rfl, hb6⟩
          show Exit.then _ _ .normal { tmps := #[.string u, .bool rep, undef, undef, .pointer (some ⟨w.heap.size, 0, none⟩), .pointer (some ⟨w.heap.size + 1, 0, none⟩), .pointer (some ⟨w.heap.size + 1 + 1, 0, none⟩), .string y, .slice (some ⟨A, 0, none⟩) k k, .string (lowS a), .slice p10 vs.length vs.length, .string u, .int .i64 u.size, .bool false, undef, .bool rep, .agg #[.slice none 0 0, .bool rep], .string u, .func (.func 76) #[] #[.pointer (some ⟨w.heap.size + 1 + 1 + 1 + 1, 0, none⟩), .pointer (some ⟨w.heap.size + 1 + 1 + 1, 0, none⟩), .pointer (some ⟨w.heap.size + 1 + 1 + 1 + 2, 0, none⟩)], .string y, .string y, .slice (some ⟨A, 0, none⟩) k k, .slice (some ⟨A, 0, none⟩) k k, .int .i64 k, .bool false, .slice (some ⟨A, 0, none⟩) k k, .pointer (some ⟨A, 0, none⟩), .string a, .string (lowS a), .slice (some ⟨A, 0, none⟩) k k, .slice p10 vs.length vs.length, .pointer (some ⟨w.heap.size + 1 + 1, 0, none⟩), .slice q rs.length c, .string (lowS a), .func (.func 57) #[] #[.pointer (some ⟨bx, 0, none⟩)], .bool r, undef, undef, undef, undef, undef, undef, undef, undef, undef, undef, undef, undef, undef, undef, undef, undef, undef, undef, undef, undef], defers := [] } w6
          have HW6 := Lib.hid (show Below W.heap.size W w6 from HW5.out.trans (hb6.mono HW5.out.size))
          have HS6 := Lib.hid (HS10.out.to hb6)
          clear hb6 HC HW5 HS10
          cases r with
          | true =>
            have hS := HS.out
            simp only [HR.out, if_true] at hS
            have HS' := Lib.hid hS
            clear hS
            gi_wp2_with fail
            exact HGo.out w6 HW6.out HS'.out
          | false =>
            have hcv : w6.cell? ⟨w.heap.size + 1 + 1, 0, none⟩ = some (.slice q rs.length c) := ((HX.out.1).to HW6.out).cell 0 rfl
            have HN := Lib.hid (show rs.length = 64 ∨ 64 < vs.length → partsD ((pre ++ [x]).map Subtype.val) = none from fun hh => by
              have hS := HS.out
              simp only [HR.out, Bool.false_eq_true, if_false, List.length_map] at hS
              rw [if_pos hh] at hS; exact hS)
            have HErr := Lib.hid (show partsD ((pre ++ [x]).map Subtype.val) = none → KeepsOthers W (st3 w6 w.heap.size (.slice none 0 0) (.bool false) (.int .i64 3)) ∧ StopP w .ret ((pre ++ [x]).map Subtype.val) (st3 w6 w.heap.size (.slice none 0 0) (.bool false) (.int .i64 3)) from fun hn => by
              have hI := HI.out
              obtain ⟨_, _, _, _, _, _, s0, s1⟩ := store3 (.slice none 0 0) (.bool false) (.int .i64 3) (hI.h0.to HW6.out) (hI.h1.to HW6.out)
              exact ⟨(keeps_below HW6.out).trans (st3_keeps _ _ _ _ _), ⟨st3_below _ _ _ (hI.b.trans (HW6.out.mono hI.b.size)) (Nat.le_refl _), s0, s1, rfl, hn⟩⟩)
            obtain ⟨k1, k2, k3, k4, k5, k6, _, _⟩ := store3 (.slice none 0 0) (.bool false) (.int .i64 3) (HI.out.h0.to HW6.out) (HI.out.h1.to HW6.out)
            by_cases h64 : rs.length = 64
            · have g2 : ((rs.length : Int) == 64) = true := by rw [h64]; rfl
              have HN2 := Lib.hid (HN.out (.inl h64))
              clear h64
              gi_wp2_with fail
              exact HErr.out HN2.out
            · have g2 : ((rs.length : Int) == 64) = false := beq_eq_false_iff_ne.2 (by omega)
              by_cases h65 : 64 < vs.length
              · have g3 : decide ((64 : Int) < (vs.length : Int)) = true := by simp; omega
                have HN2 := Lib.hid (HN.out (.inr h65))
                gi_wp2_with fail
                exact HErr.out HN2.out
              · have g3 : decide ((64 : Int) < (vs.length : Int)) = false := by simp; omega
                gi_wp2_with fail
                obtain ⟨i0, hi0, hz0, hz1, hz2⟩ := info_parts info35f
                have hT := texts_is (.slice p10 vs.length vs.length) vs (by omega) (fun z hz => by have := HZ.out z (by simp [hz]); omega)
                have HT := Lib.hid hT
                have hD6 : w.heap.size + 6 ≤ w6.heap.size := by have := HI.out.bv.lt; have := HW6.out.size; omega
                have HP := Lib.hid (show partsD ((pre ++ [x]).map Subtype.val) = some (rs.map RD.dir ++ [(lowS a, vs)]) from by
                  have hS := HS.out
                  simp only [HR.out, Bool.false_eq_true, if_false, List.length_map] at hS
                  rw [if_neg (by omega)] at hS; exact hS)
                have HI6 := Lib.hid (And.intro ((HX.out.1).to HW6.out) ((HX.out.2).to HW6.out))
                clear hT HN HErr k1 k2 k3 k4 k5 k6 HGo
                refine wpIn_region_tail (by kernel_rfl) 7 (by decide) (fun i => 46 + i) (VP vs.length (.slice q rs.length c) (lowS a) (.slice p10 vs.length vs.length) vs (w.heap.size + 6) (w.heap.size + 1 + 1)) (fun w7 => Below w6.heap.size w6 w7) ?hlt ?hinj (by kernel_rfl) (by kernel_rfl) (VP_mono _ _ _ _ _ _ _) (fun _ _ h h' => h.trans (h'.mono h.size)) ?h0 ?hop ?htail
                case hlt => intro i hi; simp only [List.size_toArray, List.length_cons, List.length_nil]; omega
                case hinj => intro i j hi hj h; have h : 46 + i = 46 + j := h; omega
                case h0 => exact Below.drew (Below.refl _ _)
                case hop =>
                  intro i o hi ho a2 w7 hF hg hd
                  have hcase : i = 0 ∨ i = 1 ∨ i = 2 ∨ i = 3 ∨ i = 4 ∨ i = 5 ∨ i = 6 := by omega
                  have h6 : a2.eval (.tmp 6) = .pointer (some ⟨w.heap.size + 1 + 1, 0, none⟩) := (hF.2.2 6 (fun i _ => by show 46 + i ≠ 6; omega)).trans rfl
                  have h9 : a2.eval (.tmp 9) = .string (lowS a) := (hF.2.2 9 (fun i _ => by show 46 + i ≠ 9; omega)).trans rfl
                  have h10 : a2.eval (.tmp 10) = .slice p10 vs.length vs.length := (hF.2.2 10 (fun i _ => by show 46 + i ≠ 10; omega)).trans rfl
                  have hcv2 : w7.cell? ⟨w.heap.size + 1 + 1, 0, none⟩ = some (.slice q rs.length c) := ((HI6.out.1).to hg).cell 0 rfl
                  have HT7 := Lib.hid (HT.out w7 (HS6.out.to hg))
                  have hD7 := hg.size
                  have HD0 := Lib.hid hd
                  clear hd hF
                  rcases hcase with rfl | rfl | rfl | rfl | rfl | rfl | rfl
                  all_goals
                    simp only [List.getElem?_toArray, List.getElem?_cons_zero, List.getElem?_cons_succ, Option.some.injEq] at ho
                    subst ho
                    have hd := HD0.out
                    simp [Region.binds, VP] at hd
                    refine ⟨rfl, ?_⟩
                    unfold Oper.wpIn
                    refine ⟨fun _ _ => trivial, ?_⟩
                    rw [Oper.semAt_plain (Fence.wide.inRound l) _ _ (by intro c hc'; cases hc')]
                  · simp [execOp, h6]
                    simp [go_sem]
                    exact ⟨_, rfl, rfl, Below.refl _ _⟩
                  · simp [execOp, hd]
                    simp [go_sem, hcv2]
                    exact ⟨_, rfl, rfl, Below.refl _ _⟩
                  · simp [execOp, h9, Oper.uponIn]
                    exact ⟨_, rfl, rfl, Below.refl _ _⟩
                  · simp [execOp, h10, Oper.uponIn]
                    exact ⟨_, rfl, rfl, Below.refl _ _⟩
                  · simp [execOp, resolve, invoke, hd]
                    simp [go_sem, Oper.uponIn]
                    refine ⟨fun _ => by omega, ?_⟩
                    refine (callsIn_wide.2 HT7.out).mono ?_
                    rintro e w8 ⟨⟨q2, c2, rfl, ho2⟩, hb8⟩
                    exact ⟨_, rfl, ⟨_, _, rfl, own_base ho2 (by omega)⟩, hb8⟩
                  · obtain ⟨hd1, ⟨q2, c2, hd2⟩, hd3⟩ := hd
                    rw [hd2] at hd3
                    simp [execOp, hd1, hd2]
                    simp [go_sem, Oper.uponIn]
                    exact ⟨_, rfl, ⟨_, _, rfl, hd3⟩, Below.refl _ _⟩
                  · obtain ⟨q2, c2, hd1, hd3⟩ := hd
                    simp [execOp, hd1]
                    simp [go_sem, Oper.uponIn]
                    exact ⟨_, rfl, ⟨_, _, _, rfl, heap_alloc_new w7 _, own_to hd3 (bnew _ _)⟩, bnew _ _⟩
                case htail =>
                  intro a2 w7 hF hg hv
                  have h6 : a2.eval (.tmp 6) = .pointer (some ⟨w.heap.size + 1 + 1, 0, none⟩) := (hF.2.2 6 (fun i _ => by show 46 + i ≠ 6; omega)).trans rfl
                  have h47 : a2.eval (.tmp 47) = .slice q rs.length c := hv 1 (by omega)
                  obtain ⟨g, q2, c2, h52, hgb, hos⟩ : ∃ g q2 c2, a2.eval (.tmp 52) = .slice (some ⟨g, 0, none⟩) 1 1 ∧ w7.heap[g]? = some (.cells #[.string (lowS a), .slice q2 vs.length c2] 35 (0, 0)) ∧ OwnS w7 (w.heap.size + 6) (.slice q2 vs.length c2) vs := hv 6 (by omega)
                  have HD := Lib.hid (HI6.out.2.to hg)
                  have H2 := Lib.hid (HI6.out.1.to hg)
                  have HW7 := Lib.hid (show Below W.heap.size W w7 from HW6.out.trans (hg.mono HW6.out.size))
                  have hs7 := hg.size
                  refine opsIn_cons (o := _) rfl rfl ?_
                  refine oper_append_in (.tmp 47) (.tmp 52) 23 rfl (w.heap.size + 6) 35 i0 (.agg #[.string ⟨#[]⟩, .slice none 0 0]) 2 40 Tryz.underlying23 hi0 hz0 hz1 hz2 rfl (by decide) (.slice q rs.length c) rs.length (encR rs) h47 HD.out.row ⟨g, 0, none⟩ 1 1 [.string (lowS a), .slice q2 vs.length c2] h52 rfl ?hcell ?hone (by unfold maxLen; omega) (by omega) (by omega) ?hK
                  case hcell =>
                    intro j z hj
                    match j, hj with
                    | 0, hj => simp at hj; subst hj; exact cell_of_row _ _ 0 _ _ _ hgb
                    | 1, hj => simp at hj; subst hj; exact cell_of_row _ _ 1 _ _ _ hgb
                    | j + 2, hj => simp at hj
                  case hone => intro z hz; simp at hz; rcases hz with rfl | rfl <;> rfl
                  case hK =>
                    intro v' w8 hown hgr
                    have hbz : w.heap.size + 2 < w.heap.size + 6 := by omega
                    obtain ⟨p1, p2, p3, p4, p5, p6, p7⟩ := push_all (n := w.heap.size) H2.out HD.out hos hgr hown hbz (by omega) (by omega)
                    obtain ⟨q', c', rfl⟩ := own_any hown
                    have hI := HI.out
                    have fin : Ks.postBox [w.heap.size + 3, w.heap.size + 4, w.heap.size + 5] (fun pre W => InvP w rep (pre.map Subtype.val) W) (fun c pre W => StopP w c (pre.map Subtype.val) W) (pre ++ [x]) W .normal (((a2.put (some 53) (.slice q' (rs.length + 1) c')).put (some 54) (.pointer (some ⟨w.heap.size + 1 + 1, 0, none⟩))).put none undef) (w8.setCell ⟨w.heap.size + 2, 0, none⟩ (.slice q' (rs.length + 1) c')) := by
                      obtain ⟨tx, htx⟩ := hI.tx
                      have t3 := p5 _ _ (Has.to htx HW7.out) (by omega) (by omega)
                      have t4 := p5 _ _ (Has.to hI.be HW7.out) (by omega) (by omega)
                      have t5 := p5 _ _ (Has.to hI.bv HW7.out) (by omega) (by omega)
                      refine ⟨(keeps_below HW7.out).trans p6, ?_, ⟨⟨_, _, p3, p4, by rw [HP.out, List.map_append]; rfl, by rw [List.length_append]; show rs.length + 1 ≤ 64; omega⟩, p7 w (hI.b.trans (HW7.out.mono hI.b.size)), p5 _ _ (hI.h0.to HW7.out) (by omega) (by omega), p5 _ _ (hI.h1.to HW7.out) (by omega) (by omega), ⟨tx, t3⟩, t4, t5⟩⟩
                      intro j hj
                      simp only [List.mem_cons, List.mem_nil_iff, or_false] at hj
                      rcases hj with rfl | rfl | rfl
                      · exact Eq.trans t3 htx.symm
                      · exact Eq.trans t4 (Eq.symm hI.be)
                      · exact Eq.trans t5 (Eq.symm hI.bv)
                    have HF := Lib.hid fin
                    clear fin p3 p4 p5 p6 p7
                    have hsz8 : (a2.put (some 53) (.slice q' (rs.length + 1) c')).tmps.size = 56 := by show (a2.tmps.setIfInBounds _ _).size = 56; rw [Array.size_setIfInBounds, hF.1]; rfl
                    refine opsIn_cons (o := _) rfl rfl ?_
                    unfold Oper.wpIn
                    refine ⟨fun _ _ => trivial, ?_⟩
                    rw [Oper.semAt_plain (Fence.wide.inRound l) _ _ (by intro c hc'; cases hc')]
                    have h6' : (a2.put (some 53) (.slice q' (rs.length + 1) c')).eval (.tmp 6) = .pointer (some ⟨w.heap.size + 1 + 1, 0, none⟩) := by rw [Act.eval_put_ne _ _ _ _ (by decide)]; exact h6
                    simp [execOp, h6']
                    simp [go_sem]
                    obtain ⟨a4, ha4⟩ : ∃ a4 : Act, a4 = { tmps := (a2.tmps.setIfInBounds 53 (.slice q' (rs.length + 1) c')).setIfInBounds 54 (.pointer (some ⟨w.heap.size + 1 + 1, 0, none⟩)), defers := a2.defers } := ⟨_, rfl⟩
                    have h54 : a4.eval (.tmp 54) = .pointer (some ⟨w.heap.size + 1 + 1, 0, none⟩) := by
                      rw [ha4]; exact Act.eval_put_same (a2.put (some 53) (.slice q' (rs.length + 1) c')) 54 _ (by rw [hsz8]; decide)
                    have h53 : a4.eval (.tmp 53) = .slice q' (rs.length + 1) c' := by
                      rw [ha4]
                      refine (Act.eval_put_ne (a2.put (some 53) (.slice q' (rs.length + 1) c')) 54 53 _ (by decide)).trans ?_
                      exact Act.eval_put_same a2 53 _ (by have e : a2.tmps.size = 56 := hF.1.trans rfl; omega)
                    rw [← ha4]
                    clear ha4
                    refine opsIn_cons (o := _) rfl rfl ?_
                    unfold Oper.wpIn
                    refine ⟨fun _ _ => trivial, ?_⟩
                    rw [Oper.semAt_plain (Fence.wide.inRound l) _ _ (by intro c hc'; cases hc')]
                    simp [execOp, h54, h53]
                    simp [go_sem, p1, p2, Oper.uponIn]
                    exact HF.out
  case done =>
    rintro D ys W hD hys hI hK
    obtain ⟨v, rs, hv2, hod, hpd, hl64⟩ := hI.out
    have hp : parseD u.data.toList = some (rs.map RD.dir) := by unfold parseD; rw [← hys]; exact hpd
    obtain ⟨q, c, rfl⟩ : ∃ q c, v = .slice q rs.length c := own_any hod.row
    obtain ⟨k1, k2, k3, k4, k5, k6, s0, s1⟩ := store3 (.slice q rs.length c) (.bool rep) (.int .i64 0) hI.h0 hI.h1
    have v0 := hv2.cell 0 rfl
    have v1 := hv2.cell 1 rfl
    have HX := Lib.hid (And.intro hI (And.intro hod (And.intro hp (And.intro hK (And.intro s0 s1)))))
    clear hv2 hod hpd hys hI hK s0 s1 hp
    gi_wp2_with fail
    obtain ⟨hI, hod, hp, hK, s0, s1⟩ := HX.out
    have hD2 : w.heap.size + 6 ≤ D := by rw [← z3]; exact hD
    have sb := st3_below (.slice q rs.length c) (.bool rep) (.int .i64 0) hI.b (Nat.le_refl _)
    have so := ownD_st3 (a := .slice q rs.length c) (r := .bool rep) (e := .int .i64 0) hod (show w.heap.size + 1 < w.heap.size + 6 by omega)
    have sK : (st3 W w.heap.size (.slice q rs.length c) (.bool rep) (.int .i64 0)).heap[D]? = some (.deferred (some [])) := ((Has.far (g := D) hK (by simp; omega) _).far (by simp; omega) _).far (by simp; omega) _
    unfold st3 at sb so sK s0 s1
    generalize ((W.setCell ⟨w.heap.size, 0, none⟩ (.slice q rs.length c)).setCell ⟨w.heap.size, 1, none⟩ (.bool rep)).setCell ⟨w.heap.size + 1, 0, none⟩ (.int .i64 0) = X at *
    refine ⟨by simp, .inl ⟨_, _, rfl, run_takeDeferred sK, ?_⟩⟩
    have t0 : Has (X.putObj D (.deferred none)) w.heap.size _ := (World.putObj_heap_other (by omega)).trans s0
    have t1 : Has (X.putObj D (.deferred none)) (w.heap.size + 1) _ := (World.putObj_heap_other (by omega)).trans s1
    have u0 := t0.cell 0 rfl
    have u1 := t0.cell 1 rfl
    have u2 := t1.cell 0 rfl
    refine ⟨.tuple #[.agg #[.slice q rs.length c, .bool rep], .int .i64 0], ?_, ?_⟩
    · simp [results, Tryz.results10, go_sem, u0, u1, u2]
    · refine ⟨?_, sb.trans (belowK_b (w := w) (Nat.le_refl _) X D _ _ (by omega) sK rfl rfl)⟩
      rw [hp]
      exact ⟨_, rs, rfl, ⟨own_base (ownsRow_putObj so.row (.deferred none) sK rfl) (by omega), fun r hr => own_base (ownsRow_putObj (so.vals r hr) (.deferred none) sK rfl) (by omega)⟩, rfl, hl64⟩
  case stop =>
    rintro D cd pre W hD hSp hI hK
    have hr := hI.r
    subst hr
    have v0 := hI.h0.cell 0 rfl
    have v1 := hI.h0.cell 1 rfl
    have v2 := hI.h1.cell 0 rfl
    have hp : parseD u.data.toList = none := by unfold parseD; exact partsD_none hI.n hSp
    have HX := Lib.hid (And.intro hI (And.intro hp hK))
    clear hSp hI hK hp
    gi_wp2_with fail
    obtain ⟨hI, hp, hK⟩ := HX.out
    have hD2 : w.heap.size + 6 ≤ D := by rw [← z3]; exact hD
    refine ⟨by simp, .inl ⟨_, _, rfl, run_takeDeferred hK, ?_⟩⟩
    have t0 : Has (W.putObj D (.deferred none)) w.heap.size _ := (World.putObj_heap_other (by omega)).trans hI.h0
    have t1 : Has (W.putObj D (.deferred none)) (w.heap.size + 1) _ := (World.putObj_heap_other (by omega)).trans hI.h1
    have u0 := t0.cell 0 rfl
    have u1 := t0.cell 1 rfl
    have u2 := t1.cell 0 rfl
    refine ⟨.tuple #[.agg #[.slice none 0 0, .bool false], .int .i64 3], ?_, ?_⟩
    · simp [results, Tryz.results10, go_sem, u0, u1, u2]
    · refine ⟨?_, hI.b.trans (belowK_b (w := w) (Nat.le_refl _) W D _ _ (by omega) hK rfl rfl)⟩
      rw [hp]
      rfl
end Go.Proofs.YtempmmkdppelaaaGreatDoor
