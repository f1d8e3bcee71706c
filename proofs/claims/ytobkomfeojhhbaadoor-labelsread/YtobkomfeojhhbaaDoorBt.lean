/- A slice that reads as bytes. -/
import Derived.Test.YtobkomfeojhhbaaDoorLi
import Derived.Test.YtobkomfeojhhbaaDoorKp
import Derived.Laws.BytesString
import Derived.Laws.BytesArg
import Derived.Laws.AppendOwnNone
import Derived.Deep.RegionLaw
namespace Go.Proofs.YtobkomfeojhhbaaDoor
open Go.RowKit Go.Maps

/-- A slice that reads as these bytes. -/
def BytesAt (w : World) (v : Value) (bs : List UInt8) : Prop :=
  ∃ a c, v = .slice a bs.length c ∧ (bs.length ≤ c ∧ c ≤ maxLen) ∧ (a = none → c = 0 ∧ bs = []) ∧ ∀ k (hk : k < bs.length), ∃ b o, a = some ⟨b, o, none⟩ ∧ b < w.heap.size ∧ w.cell? ⟨b, o + k, none⟩ = some (.int .u8 bs[k].toNat)
theorem BytesAt.nil {w : World} : BytesAt w (.slice none 0 0) [] := ⟨none, 0, rfl, ⟨Nat.zero_le _, Nat.zero_le _⟩, fun _ => ⟨rfl, rfl⟩, fun _k hk => absurd hk (Nat.not_lt_zero _)⟩
theorem BytesAt.below {w w' : World} {v : Value} {bs : List UInt8} (h : BytesAt w v bs) (hb : Below w.heap.size w w') : BytesAt w' v bs := by
  obtain ⟨a, c, e, hlc, hn, hk⟩ := h
  refine ⟨a, c, e, hlc, hn, fun k hlt => ?_⟩
  obtain ⟨b, o, ha, hl, h1⟩ := hk k hlt
  have := hb.size
  exact ⟨b, o, ha, by omega, (hb.cell (p := ⟨b, o + k, none⟩) hl).trans h1⟩
theorem BytesAt.drewN {w : World} {v : Value} {bs : List UInt8} (h : BytesAt w v bs) (q : Nat) : BytesAt (w.drewN q) v bs := h.below (below_drewN (Below.refl _ _) q)
theorem BytesAt.one {w : World} {a : Option Addr} {c n : Nat} {bs : List UInt8} (h : BytesAt w (.slice a n c) bs) (k : Nat) (hk : k < bs.length) : ∃ b o, a = some ⟨b, o, none⟩ ∧ ∀ w', Below w.heap.size w w' → w'.cell? ⟨b, o + k, none⟩ = some (.int .u8 bs[k].toNat) := by
  obtain ⟨a', c', e, -, -, hc⟩ := h
  cases e
  obtain ⟨b, o, rfl, hb, h1⟩ := hc k hk
  exact ⟨b, o, rfl, fun w' hb' => (hb'.cell (p := ⟨b, o + k, none⟩) hb).trans h1⟩
theorem BytesAt.of_row {w : World} {base : Nat} {v : Value} {bs : List UInt8} (h : w.ownsRow base 5 1 v bs.length (byteVals bs)) : BytesAt w v bs := by
  rcases h.2 with ⟨e, h0⟩ | ⟨g, cap, cur, e, hg, hcur, hc1, hc2, _⟩
  · have : bs = [] := List.eq_nil_of_length_eq_zero h0
    subst this
    rw [e]
    exact BytesAt.nil
  · refine ⟨some ⟨g, 0, none⟩, cap, e, ⟨hc1, hc2⟩, (fun e9 => by cases e9), fun k hk => ⟨g, 0, rfl, (Array.getElem?_eq_some_iff.1 hcur).1, ?_⟩⟩
    have := h.cells (g := g) (by rw [e]; rfl) k (.int .u8 bs[k].toNat) (by simp [byteVals, hk])
    rw [Addr.add_lit] at this
    exact this
theorem BytesAt.take {w : World} {a : Option Addr} {n c : Nat} {bs : List UInt8} (h : BytesAt w (.slice a n c) bs) (k : Nat) (hk : k ≤ n) : BytesAt w (.slice a k c) (bs.take k) := by
  obtain ⟨a', c', e, hlc, hn, hc⟩ := h
  cases e
  have hl : (bs.take k).length = k := by simp; omega
  refine ⟨a, c, by rw [hl], ⟨by omega, hlc.2⟩, fun e9 => ⟨(hn e9).1, by rw [(hn e9).2]; simp⟩, fun i hi => ?_⟩
  obtain ⟨b, o, e, h1, h2⟩ := hc i (by omega)
  exact ⟨b, o, e, h1, by rw [h2]; simp⟩
theorem BytesAt.drop {w : World} {b o n c : Nat} {bs : List UInt8} (h : BytesAt w (.slice (some ⟨b, o, none⟩) n c) bs) (k : Nat) (_hk : k ≤ n) : BytesAt w (.slice (some ⟨b, o + k, none⟩) (n - k) (c - k)) (bs.drop k) := by
  obtain ⟨a', c', e, hlc, -, hc⟩ := h
  cases e
  have hl : (bs.drop k).length = bs.length - k := by simp
  refine ⟨_, _, by rw [hl], ⟨by omega, by have := hlc.2; omega⟩, (fun e9 => by cases e9), fun i hi => ?_⟩
  obtain ⟨b', o', e, h1, h2⟩ := hc (k + i) (by omega)
  cases e
  exact ⟨b, o + k, rfl, h1, by rw [show o + k + i = o + (k + i) by omega, h2]; simp⟩
/-- Its end, as a slice expression gives it. -/
theorem BytesAt.rest {w : World} {b o n c : Nat} {bs : List UInt8} (h : BytesAt w (.slice (some ⟨b, o, none⟩) n c) bs) (k : Nat) (hk : k ≤ n) : BytesAt w (.slice (if c = k then some ⟨b, o, none⟩ else some ⟨b, o + k, none⟩) (n - k) (c - k)) (bs.drop k) := by
  by_cases hc : c = k
  · rw [if_pos hc]
    obtain ⟨a', c', e, hlc, -⟩ := id h
    cases e
    have hl : (bs.drop k).length = bs.length - k := by simp
    refine ⟨_, _, by rw [hl], ⟨by omega, by have := hlc.2; omega⟩, (fun e9 => by cases e9), fun i hi => by omega⟩
  · rw [if_neg hc]
    exact h.drop k hk
theorem BytesAt.cells {w : World} {ad : Addr} {n c : Nat} {bs : List UInt8} (h : BytesAt w (.slice (some ad) n c) bs) : ∀ j u, (byteVals bs)[j]? = some u → w.cell? (ad.add j) = some u := fun j u hu => by
  obtain ⟨a', c', e, hlc, -, hc⟩ := h
  cases e
  have hj : j < bs.length := by
    rcases Nat.lt_or_ge j bs.length with h1 | h1
    · exact h1
    · rw [List.getElem?_eq_none (by rw [byteVals_length]; exact h1)] at hu; cases hu
  obtain ⟨b', o', e, _, h1⟩ := hc j hj
  cases e
  rw [Addr.add_lit, h1, ← hu]
  simp [byteVals, hj]
/-- Its text. -/
theorem BytesAt.str {w : World} {v : Value} {bs : List UInt8} (h : BytesAt w v bs) : (convert 38 9 v).run Tryd.prog w = .ok (.string ⟨bs.toArray⟩) w := by
  obtain ⟨a, c, rfl, hlc, hn, hc⟩ := id h
  cases a with
  | none =>
    obtain ⟨rfl, rfl⟩ := hn rfl
    exact run_convert_bytes_nil w 38 5 Tryd.underlying38 Tryd.underlying5 0 0 9 Tryd.underlying9
  | some ad =>
    have e1 : (bs.map fun b => (b.toNat : Int)).map (Value.int .u8) = byteVals bs := by simp [byteVals]
    have hl : (loadCells ad bs.length).run Tryd.prog w = .ok ((bs.map fun b => (b.toNat : Int)).map (Value.int .u8)).toArray w := by
      rw [e1]
      have := run_loadCells_list (P := Tryd.prog) w ad (byteVals bs) h.cells
      rw [byteVals_length] at this
      exact this
    rw [run_convert_bytes_string w 38 9 5 _ bs.length c Tryd.underlying38 Tryd.underlying5 Tryd.underlying9, run_bytesToString w _ bs.length c _ hl]
    have e2 : (bs.map fun b => (b.toNat : Int)).foldl (fun r n => r.push (UInt8.ofNat n.toNat)) ByteArray.empty = ⟨bs.toArray⟩ := by
      have key : ∀ (l : List UInt8) (r : ByteArray), (l.map fun b => (b.toNat : Int)).foldl (fun r n => r.push (UInt8.ofNat n.toNat)) r = ⟨r.data ++ l.toArray⟩ := fun l => by
        induction l with
        | nil => intro r; simp
        | cons x t ih =>
          intro r
          rw [List.map_cons, List.foldl_cons, ih]
          apply WideShapes.bytes_inj
          simp [ByteArray.push]
      rw [key]
      apply WideShapes.bytes_inj
      simp [ByteArray.empty, ByteArray.emptyWithCapacity]
      rfl
    rw [e2]
theorem byteVals_one (bs : List UInt8) : ∀ u ∈ byteVals bs, u.oneCell' = true := fun u hu => by
  simp only [byteVals, List.mem_map] at hu
  obtain ⟨x, _, rfl⟩ := hu
  rfl
/-- append of a slice of bytes, nil or not, onto a slice of the call's own. -/
theorem wpList_append_bytes (w : World) {ops : Array Oper} {rest : List Oper} {o : Oper} {a : Act} {Q : Exit → Act → World → Prop} (hgd : o.guard = none) (s x : Operand)
    (ho : o.op = .call { callee := .builtin .append, args := #[s, x], argTypes := #[38, 38] }) (base : Nat) (v : Value) (n : Nat) (xs : List Value) (hs : a.eval s = v) (hown : w.ownsRow base 5 1 v n xs)
    (xv : Value) (nw : List UInt8) (hx : a.eval x = xv) (hb : BytesAt w xv nw) (hl : n + nw.length ≤ 1000000000) (hbase : base ≤ w.heap.size)
    (h : ∀ v' w', w'.ownsRow base 5 1 v' (n + nw.length) (xs ++ byteVals nw) → w.grownBy w' v.ownBlock → (v'.ownBlock = v.ownBlock ∨ v'.ownBlock = some w.heap.size) → wpList Tryd.prog ops Q rest (a.put o.dst v') w') : wpList Tryd.prog ops Q (o :: rest) a w := by
  obtain ⟨i0, hi0, hz0, hz1, hz2⟩ := info_parts infoU8
  obtain ⟨ax, c, rfl, hlc, hn, hc⟩ := id hb
  cases ax with
  | none =>
    obtain ⟨rfl, rfl⟩ := hn rfl
    exact wpList_append_own_none hgd s x 38 ho base 5 i0 1 Tryd.underlying38 hi0 v n xs hs hown hx (h v w (by simpa [byteVals] using hown) ⟨rfl, rfl, rfl, Nat.le_refl _, fun _ _ _ => rfl⟩ (Or.inl rfl))
  | some ad => exact wpList_append_own_at w hgd s x 38 ho base 5 i0 (.int .u8 0) 1 1 Tryd.underlying38 hi0 hz0 hz1 hz2 rfl (by decide) v n xs hs hown ad nw.length c (byteVals nw) hx (by rw [byteVals_length]; omega) hb.cells (byteVals_one nw) (by unfold maxLen; omega) (by omega) hbase (fun v' w' h1 h2 _ h4 => h v' w' h1 h2 h4)

end Go.Proofs.YtobkomfeojhhbaaDoor
