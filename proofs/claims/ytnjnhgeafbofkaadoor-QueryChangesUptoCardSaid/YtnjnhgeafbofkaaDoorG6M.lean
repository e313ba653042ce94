/-
  The contract of query's Put: the pair stands where the first one of its name stood, or behind all; the others of that name are gone.
-/
import Derived.Test.YtnjnhgeafbofkaaDoorG4M
import Derived.ArgAppend
namespace Go.Proofs.YtnjnhgeafbofkaaDoor
open Go.RowKit
/-- the place of the first pair of a name, or the list's end -/
def atN (nm : ByteArray) (l : List Fd) : Nat := (l.findIdx? (isN nm)).getD l.length
def putL (nm va : ByteArray) (l : List Fd) : List Fd := l.take (atN nm l) ++ [(nm, va)] ++ dropN nm (l.drop (atN nm l))
theorem at_le (nm : ByteArray) (l : List Fd) : atN nm l ≤ l.length := by
  unfold atN
  cases h : l.findIdx? (isN nm) with
  | none => exact Nat.le_refl _
  | some i => exact Nat.le_of_lt (List.findIdx?_eq_some_iff_getElem.1 h).1
theorem at_idx (nm : ByteArray) (l : List Fd) : idxI (isN nm) l = (if atN nm l < l.length then (atN nm l : Int) else -1) := by
  unfold idxI atN
  cases h : l.findIdx? (isN nm) with
  | none => simp
  | some i => simp [(List.findIdx?_eq_some_iff_getElem.1 h).1]
theorem without_n (nm : ByteArray) (bx : Nat) (q : Option Addr) (n cap : Nat) (l : List Fd) (hln : l.length = n) (hn : q = none → cap = 0) (hm : n * 32 ≤ 140737488355328) (w : World) (hv : Lst w (.slice q n cap) l) (hbx : Boxed w bx 9 (.string nm)) :
    Calls Tryd.prog 37 #[.slice q n cap, .func (.func 55) #[] #[.pointer (some ⟨bx, 0, none⟩)]] w fun e w' => (∃ q' cap', e = .returned (.slice q' (dropN nm l).length cap') ∧ OwnF w' w.heap.size (.slice q' (dropN nm l).length cap') (dropN nm l)) ∧ Below w.heap.size w w' := by
  subst hln; exact without_is nm bx q cap l hn hm w hv hbx
theorem fresh_n (B : Nat) (q : Option Addr) (n cap : Nat) (l : List Fd) (hln : l.length = n) (hf : Fit l) (hm : n ≤ 140737488355328) (w : World) (hv : OwnF w B (.slice q n cap) l) (hB : B ≤ w.heap.size) :
    Calls Tryd.prog 36 #[.slice q n cap] w fun e w' => (e = .returned (.slice q n cap) ∧ OwnF w' B (.slice q n cap) l) ∧ Below B w w' := by
  subst hln; exact fresh_is B q cap l hf hm w hv hB
theorem Lst.drop {w : World} {q : Option Addr} {n cap : Nat} {l : List Fd} (h : Lst w (.slice q n cap) l) (k : Nat) (c : Nat) (hk : k < l.length) : Lst w (.slice (Option.map (fun x => x.add (k * 2)) q) (l.length - k) c) (l.drop k) := by
  obtain ⟨p, cap', e, hc⟩ := h
  simp only [Value.slice.injEq] at e
  obtain ⟨rfl, rfl, rfl⟩ := e
  refine ⟨_, c, by rw [List.length_drop], fun i x hi => ?_⟩
  rw [List.getElem?_drop] at hi
  obtain ⟨g, o, hp, hg, h0, h1⟩ := hc _ x hi
  subst hp
  refine ⟨g, o + k * 2, by simp [Addr.add], hg, ?_, ?_⟩
  · rw [show o + k * 2 + i * 2 = o + (k + i) * 2 by omega]; exact h0
  · rw [show o + k * 2 + i * 2 + 1 = o + (k + i) * 2 + 1 by omega]; exact h1
theorem lst_empty (w : World) (q : Option Addr) (n c : Nat) (l : List Fd) (hl : l = []) (hn : n = 0) : Lst w (.slice q n c) l := by
  subst hl; subst hn; exact ⟨q, c, rfl, fun i x hi => by simp at hi⟩
def VQ (v4 : Value) (q : Option Addr) (n cap k : Nat) (nm : ByteArray) (rest : List Fd) (B : Nat) (i : Nat) (x : Value) (w : World) : Prop :=
  match i with
  | 0 => x = v4
  | 1 => x = .slice q n cap
  | 2 => x = .int .i64 k
  | 3 => ∃ q' c', x = .slice q' rest.length c' ∧ (q' = none → c' = 0) ∧ Lst w (.slice q' rest.length c') rest
  | 4 => x = .string nm
  | 5 => ∃ b, x = .func (.func 55) #[] #[.pointer (some ⟨b, 0, none⟩)] ∧ Boxed w b 9 (.string nm)
  | _ => ∃ q' c', x = .slice q' (dropN nm rest).length c' ∧ OwnF w B (.slice q' (dropN nm rest).length c') (dropN nm rest)
theorem VQ_mono (v4 : Value) (q : Option Addr) (n cap k : Nat) (nm : ByteArray) (rest : List Fd) (B : Nat) : ∀ (i : Nat) (x : Value) (w w' : World), VQ v4 q n cap k nm rest B i x w → Below w.heap.size w w' → VQ v4 q n cap k nm rest B i x w'
  | 0, _, _, _, h, _ => h
  | 1, _, _, _, h, _ => h
  | 2, _, _, _, h, _ => h
  | 3, _, _, _, ⟨q', c', h1, h2, h3⟩, hb => ⟨q', c', h1, h2, h3.below hb⟩
  | 4, _, _, _, h, _ => h
  | 5, _, _, _, ⟨b, h1, h2⟩, hb => ⟨b, h1, Boxed.to' h2 hb⟩
  | _ + 6, _, _, _, ⟨q', c', h1, h2⟩, hb => ⟨q', c', h1, Ks.own_to h2 hb⟩
theorem Lst.pre {w : World} {q : Option Addr} {n cap : Nat} {l : List Fd} (h : Lst w (.slice q n cap) l) (k : Nat) (b : Addr) (hb : q = some b) : ∀ j u, (encFs (l.take k))[j]? = some u → w.cell? (b.add j) = some u := by
  subst hb
  intro j u hj
  refine lst_news h j u ?_
  have e : encFs l = encFs (l.take k) ++ encFs (l.drop k) := by rw [← encFs_app, List.take_append_drop]
  rw [e, List.getElem?_append_left (List.getElem?_eq_some_iff.1 hj).1]
  exact hj
theorem run_append_pairs2 {w : World} (ty : TypeId) (B : Nat) (v : Value) (l : List Fd) (hown : OwnF w B v l) (B2 : Nat) (v2 : Value) (l2 : List Fd) (h2 : OwnF w B2 v2 l2)
    (hlen : (l.length + l2.length) * 32 ≤ 140737488355328) (hbase : B ≤ w.heap.size) :
    ∃ v' w', (Builtin.append_ #[22, 22] ty #[v, v2]).run Tryd.prog w = .ok v' w' ∧ OwnF w' B v' (l ++ l2) ∧ w.grownBy w' v.ownBlock ∧ (v'.ownBlock = v.ownBlock ∨ v'.ownBlock = some w.heap.size) := by
  obtain ⟨i0, hi, hz0, hz1, hz2⟩ := info_parts Ks.infoField
  rcases h2.2 with ⟨rfl, h0⟩ | ⟨g, cap, cur, rfl, _⟩
  · have hy : l2 = [] := List.eq_nil_of_length_eq_zero h0
    subst hy
    have hrun := run_append_owned_none (P := Tryd.prog) (w := w) B 22 ty 38 i0 2 Tryd.underlying22 hi v l.length _ hown
    exact ⟨v, w, hrun, by simpa using hown, ⟨rfl, rfl, rfl, Nat.le_refl _, fun _ _ _ => rfl⟩, .inl rfl⟩
  · obtain ⟨v', w', hr, a1, b1, _, d1⟩ := run_append_own_at (P := Tryd.prog) w B 22 ty 38 i0 (.agg #[.string ⟨#[]⟩, .string ⟨#[]⟩]) 2 32 Tryd.underlying22 hi hz0 hz1 hz2 rfl (by decide) v l.length _ hown ⟨g, 0, none⟩ l2.length cap (encFs l2) (Ks.encFs_len l2) (fun j u hj => h2.cells (g := g) rfl j u hj) (encFs_one l2) (by unfold maxLen; omega) (by omega) hbase
    refine ⟨v', w', hr, ?_, b1, d1⟩
    unfold OwnF
    rw [List.length_append, encFs_app]
    exact a1
end Go.Proofs.YtnjnhgeafbofkaaDoor
