/- New, Bytes, packed, Encode, Bits. -/
import Derived.Test.YtkmclgbiedbfpaaDoorK7
namespace Go.Proofs.YtkmclgbiedbfpaaDoor
open Go.RowKit Go.Maps Go.Shelf

def smCells (l : List Sm) : List Value := l.flatMap fun e => [.int .i64 (sg e.1), .float .f64 e.2.toNat]
theorem smCells_length (l : List Sm) : (smCells l).length = l.length * 2 := by
  induction l with
  | nil => rfl
  | cons a r ih => simp [smCells] at *; omega
theorem smCells_at (l : List Sm) (k : Nat) (hk : k < l.length) : (smCells l)[k * 2]? = some (.int .i64 (sg l[k].1)) ∧ (smCells l)[k * 2 + 1]? = some (.float .f64 l[k].2.toNat) := by
  induction l generalizing k with
  | nil => simp at hk
  | cons c r ih =>
    have e : smCells (c :: r) = [.int .i64 (sg c.1), .float .f64 c.2.toNat] ++ smCells r := by simp [smCells]
    cases k with
    | zero => simp [e]
    | succ k =>
      have h := ih k (by simpa using hk)
      constructor
      · rw [e, List.getElem?_append_right (by simp; omega), show (k + 1) * 2 - [Value.int .i64 (sg c.1), Value.float .f64 c.2.toNat].length = k * 2 by simp; omega]; exact h.1
      · rw [e, List.getElem?_append_right (by simp; omega), show (k + 1) * 2 + 1 - [Value.int .i64 (sg c.1), Value.float .f64 c.2.toNat].length = k * 2 + 1 by simp; omega]; exact h.2
theorem smCells_append (l m : List Sm) : smCells (l ++ m) = smCells l ++ smCells m := by simp [smCells]
theorem smCells_one (l : List Sm) : ∀ u ∈ smCells l, u.oneCell' = true := fun u hu => by
  simp only [smCells, List.mem_flatMap] at hu
  obtain ⟨x, _, hu⟩ := hu
  simp at hu
  rcases hu with rfl | rfl <;> rfl
theorem infoSm : (Tryd.prog.info? 35).map (fun i => (i.zero, i.size, i.bytes)) = some (some (.agg #[.int .i64 0, .float .f64 0]), 2, 16) := by kernel_rfl
/-- A slice that reads as these samples. -/
def SmpAt (w : World) (v : Value) (l : List Sm) : Prop :=
  ∃ a c, v = .slice a l.length c ∧ (l.length ≤ c ∧ c ≤ maxLen) ∧ (a = none → c = 0 ∧ l = []) ∧ ∀ k (hk : k < l.length), ∃ b o, a = some ⟨b, o, none⟩ ∧ b < w.heap.size ∧ w.cell? ⟨b, o + k * 2, none⟩ = some (.int .i64 (sg l[k].1)) ∧ w.cell? ⟨b, o + k * 2 + 1, none⟩ = some (.float .f64 l[k].2.toNat)
theorem SmpAt.nil {w : World} : SmpAt w (.slice none 0 0) [] := ⟨none, 0, rfl, ⟨Nat.zero_le _, Nat.zero_le _⟩, fun _ => ⟨rfl, rfl⟩, fun _k hk => absurd hk (Nat.not_lt_zero _)⟩
theorem SmpAt.below {w w' : World} {v : Value} {l : List Sm} (h : SmpAt w v l) (hb : Below w.heap.size w w') : SmpAt w' v l := by
  obtain ⟨a, c, e, hlc, hn, hk⟩ := h
  refine ⟨a, c, e, hlc, hn, fun k hlt => ?_⟩
  obtain ⟨b, o, ha, hl, h1, h2⟩ := hk k hlt
  have := hb.size
  exact ⟨b, o, ha, by omega, (hb.cell (p := ⟨b, o + k * 2, none⟩) hl).trans h1, (hb.cell (p := ⟨b, o + k * 2 + 1, none⟩) hl).trans h2⟩
theorem SmpAt.of_row {w : World} {base : Nat} {v : Value} {l : List Sm} (h : w.ownsRow base 35 2 v l.length (smCells l)) : SmpAt w v l := by
  rcases h.2 with ⟨e, h0⟩ | ⟨g, cap, cur, e, hg, hcur, hc1, hc2, _⟩
  · have : l = [] := List.eq_nil_of_length_eq_zero h0
    subst this
    rw [e]
    exact SmpAt.nil
  · refine ⟨some ⟨g, 0, none⟩, cap, e, ⟨hc1, hc2⟩, (fun e9 => by cases e9), fun k hk => ⟨g, 0, rfl, (Array.getElem?_eq_some_iff.1 hcur).1, ?_, ?_⟩⟩
    · have := h.cells (g := g) (by rw [e]; rfl) _ _ (smCells_at l k hk).1
      rw [Addr.add_lit, Nat.zero_add] at this
      rw [Nat.zero_add]; exact this
    · have := h.cells (g := g) (by rw [e]; rfl) _ _ (smCells_at l k hk).2
      rw [Addr.add_lit, Nat.zero_add] at this
      rw [Nat.zero_add]; exact this
theorem SmpAt.one {w : World} {a : Option Addr} {c n : Nat} {l : List Sm} (h : SmpAt w (.slice a n c) l) (k : Nat) (hk : k < l.length) : ∃ b o, a = some ⟨b, o, none⟩ ∧ ∀ w', Below w.heap.size w w' → w'.cell? ⟨b, o + k * 2, none⟩ = some (.int .i64 (sg l[k].1)) ∧ w'.cell? ⟨b, o + k * 2 + 1, none⟩ = some (.float .f64 l[k].2.toNat) := by
  obtain ⟨a', c', e, -, -, hc⟩ := h
  cases e
  obtain ⟨b, o, rfl, hb, h1, h2⟩ := hc k hk
  exact ⟨b, o, rfl, fun w' hb' => ⟨(hb'.cell (p := ⟨b, o + k * 2, none⟩) hb).trans h1, (hb'.cell (p := ⟨b, o + k * 2 + 1, none⟩) hb).trans h2⟩⟩
theorem SmpAt.take {w : World} {a : Option Addr} {n c : Nat} {l : List Sm} (h : SmpAt w (.slice a n c) l) (k : Nat) (hk : k ≤ n) : SmpAt w (.slice a k c) (l.take k) := by
  obtain ⟨a', c', e, hlc, hn, hc⟩ := h
  cases e
  have hl : (l.take k).length = k := by simp; omega
  refine ⟨a, c, by rw [hl], ⟨by omega, hlc.2⟩, fun e9 => ⟨(hn e9).1, by rw [(hn e9).2]; simp⟩, fun i hi => ?_⟩
  obtain ⟨b, o, e, h1, h2, h3⟩ := hc i (by omega)
  exact ⟨b, o, e, h1, by rw [h2]; simp, by rw [h3]; simp⟩
theorem run_append_bytes (w : World) (ty : TypeId) (base : Nat) (v : Value) (n : Nat) (xs : List Value) (hown : w.ownsRow base 5 1 v n xs) (xv : Value) (nw : List UInt8) (hb : BytesAt w xv nw) (hl : n + nw.length ≤ 1000000000) (hbase : base ≤ w.heap.size) :
    ∃ v' w', (Builtin.append_ #[24, 24] ty #[v, xv]).run Tryd.prog w = .ok v' w' ∧ w'.ownsRow base 5 1 v' (n + nw.length) (xs ++ byteVals nw) ∧ w.grownBy w' v.ownBlock ∧ (v'.ownBlock = v.ownBlock ∨ v'.ownBlock = some w.heap.size) := by
  obtain ⟨i0, hi0, hz0, hz1, hz2⟩ := info_parts infoU8
  obtain ⟨ax, c, rfl, hlc, hn, hc⟩ := id hb
  cases ax with
  | none =>
    obtain ⟨rfl, rfl⟩ := hn rfl
    exact ⟨v, w, run_append_owned_none (P := Tryd.prog) (w := w) base 24 ty 5 i0 1 Tryd.underlying24 hi0 v n xs hown, by simpa [byteVals] using hown, ⟨rfl, rfl, rfl, Nat.le_refl _, fun _ _ _ => rfl⟩, Or.inl rfl⟩
  | some ad =>
    obtain ⟨v', w', hr, h2, h3, _, h5⟩ := run_append_own_at (P := Tryd.prog) w base 24 ty 5 i0 (.int .u8 0) 1 1 Tryd.underlying24 hi0 hz0 hz1 hz2 rfl (by decide) v n xs hown ad nw.length c (byteVals nw) (by rw [byteVals_length]; omega) hb.cells (byteVals_one nw) (by unfold maxLen; omega) (by omega) hbase
    exact ⟨v', w', hr, h2, h3, h5⟩
theorem step_append_bytes (w : World) {ops : Array Oper} {o : Oper} {a : Act} {K : Act → World → Prop} {Q : Exit → Act → World → Prop} {E : Prop} (hgd : o.guard = none) (s x : Operand)
    (ho : o.op = .call { callee := .builtin .append, args := #[s, x], argTypes := #[24, 24] }) (base : Nat) (v : Value) (n : Nat) (xs : List Value) (hs : a.eval s = v) (hown : w.ownsRow base 5 1 v n xs)
    (xv : Value) (nw : List UInt8) (hx : a.eval x = xv) (hb : BytesAt w xv nw) (hl : n + nw.length ≤ 1000000000) (hbase : base ≤ w.heap.size)
    (h : ∀ c d w', w'.ownsRow base 5 1 (.slice c (n + nw.length) d) (n + nw.length) (xs ++ byteVals nw) → w.grownBy w' v.ownBlock → ((Value.slice c (n + nw.length) d).ownBlock = v.ownBlock ∨ (Value.slice c (n + nw.length) d).ownBlock = some w.heap.size) → K (a.put o.dst (.slice c (n + nw.length) d)) w') :
    if Region.wanted o (yielded ops a.tmps) = true then Oper.wp Tryd.prog o a w K Q else E := by
  have hw : Region.wanted o (yielded ops a.tmps) = true := by simp [Region.wanted, hgd]
  rw [if_pos hw]
  obtain ⟨v', w', hr, h2, h3, h4⟩ := run_append_bytes w o.type base v n xs hown xv nw hb hl hbase
  obtain ⟨c, d, rfl⟩ := slice_of_row h2
  unfold Oper.wp execOp
  simp only [ho, resolve, invoke, builtin, Sem.run_bind, Sem.run_pure, Result.andThen_ok, List.map_toArray, List.map_cons, List.map_nil, hs, hx, hr]
  exact h c d w' h2 h3 h4

theorem pair_at {w : World} {g : Nat} {x y : Int} {b0 b1 : UInt8} (h : w.heap[g]? = some (.cells #[.int .u8 x, .int .u8 y] 5)) (h0 : x = b0.toNat) (h1 : y = b1.toNat) : BytesAt w (.slice (some ⟨g, 0, none⟩) 2 2) [b0, b1] := by
  subst h0 h1
  exact BytesAt.of_row (base := 0) (bs := [b0, b1]) ⟨rfl, Or.inr ⟨g, 2, _, rfl, Nat.zero_le _, h, Nat.le_refl _, by decide, rfl, rfl⟩⟩

set_option maxRecDepth 100000 in
set_option maxHeartbeats 1000000 in
theorem new_any (w : World) :
    Calls Tryd.prog 12 #[] w fun e w' => e = .returned (.pointer (some ⟨w.heap.size, 0, none⟩)) ∧ WrL w' w.heap.size w.heap.size [] ∧ Below w.heap.size w w' := by
  go_enter Tryd.func12, Tryd.ntmps12
  go_wp2
  go_ret
  refine ⟨rfl, ⟨Nat.le_refl _, by simp, none, 0, heap_alloc_new w _, rfl, Or.inl ⟨rfl, rfl⟩⟩, (Below.refl _ _).alloc (Nat.le_refl _) _⟩

set_option maxRecDepth 100000 in
set_option maxHeartbeats 2000000 in
theorem bytes_any (base P : Nat) (l : List Sm) (w : World) (h : WrL w base P l) (hl : l.length ≤ 120) :
    Calls Tryd.prog 17 #[.pointer (some ⟨P, 0, none⟩)] w fun e w' => ∃ v', e = .returned v' ∧ w'.ownsRow w.heap.size 5 1 v' (encR l).length (byteVals (encR l)) ∧ Below w.heap.size w w' := by
  obtain ⟨hP, hbs, a, c, hh, hr⟩ := h
  have c0 : w.cell? ⟨P, 0, none⟩ = some (.int .i64 l.length) := by rw [cell_of_heap hh]; rfl
  have c1 : w.cell? ⟨P, 1, none⟩ = some (.slice a (pk (encB l)).length c) := by rw [cell_of_heap hh]; rfl
  have hbits := encB_length l
  have hpl := pk_length (encB l)
  have hPw : P < w.heap.size := (Array.getElem?_eq_some_iff.1 hh).1
  have hlen : (pk (encB l)).length ≤ 3000 := by rw [hpl]; omega
  obtain ⟨n, hn⟩ : ∃ n, n = (pk (encB l)).length := ⟨_, rfl⟩
  have HB : Hid (BytesAt w (.slice a n c) (pk (encB l))) := by
    show BytesAt w (.slice a n c) (pk (encB l))
    rw [hn]
    exact BytesAt.of_row hr
  rw [← hn] at c1 hlen
  have HN : Hid (n = (pk (encB l)).length) := hn
  have HLEN : Hid ((encR l).length = n + 2) := by show _ = _; unfold encR; simp [hn]
  have HV : Hid (byteVals (encR l) = [Value.int .u8 ((l.length : Int) / 256), Value.int .u8 ((l.length : Int) % 256)] ++ byteVals (pk (encB l))) := by
    show _ = _
    unfold encR byteVals
    rw [List.map_cons, List.map_cons, UInt8.toNat_ofNat', UInt8.toNat_ofNat']
    have e1 : ((l.length / 256 % 2 ^ 8 : Nat) : Int) = (l.length : Int) / 256 := by omega
    have e2 : ((l.length % 2 ^ 8 : Nat) : Int) = (l.length : Int) % 256 := by omega
    rw [e1, e2]
    rfl
  clear hh hr hpl hbits hn
  generalize pk (encB l) = ys at *
  obtain ⟨i0, hi0, hz0, hz1, hz2⟩ := info_parts infoU8
  obtain ⟨W1, hmk, hown1, hgrow1⟩ := run_make_own (P := Tryd.prog) (w := w) w.heap.size 24 5 i0 _ 1 Tryd.underlying24 hi0 hz0 hz1 .i64 .i64 (2 + n) (by rw [hz2]; omega) (by unfold maxLen; omega) (Nat.le_refl _)
  have hcst : ((2 + n : Nat) : Int) = 2 + (n : Int) := by omega
  rw [hcst] at hmk
  have hb1 : Below w.heap.size w W1 := (Below.refl _ _).grown hgrow1 (Nat.le_refl _) (fun j hj => by cases hj)
  have d0 : W1.cell? ⟨P, 0, none⟩ = some (.int .i64 l.length) := (hb1.cell (p := ⟨P, 0, none⟩) hPw).trans c0
  have d1 : W1.cell? ⟨P, 1, none⟩ = some (.slice a n c) := (hb1.cell (p := ⟨P, 1, none⟩) hPw).trans c1
  have HROW : Hid (W1.ownsRow w.heap.size 5 1 (.slice (some ⟨w.heap.size, 0, none⟩) 0 (2 + n)) 0 []) := hown1
  have HB1 : Hid (Below w.heap.size w W1) := hb1
  clear hown1 hgrow1 hb1 hcst hz0 hz1 hz2 hi0
  generalize l.length = m at *
  go_enter Tryd.func17, Tryd.ntmps17
  obtain ⟨b0, hb0⟩ : ∃ b0 : UInt8, (b0.toNat : Int) = (m : Int) / 256 := ⟨UInt8.ofNat (m / 256), by rw [UInt8.toNat_ofNat']; omega⟩
  obtain ⟨b1, hb1⟩ : ∃ b1 : UInt8, (b1.toNat : Int) = (m : Int) % 256 := ⟨UInt8.ofNat m, by rw [UInt8.toNat_ofNat']; omega⟩
  have HB0 : Hid ((b0.toNat : Int) = (m : Int) / 256) := hb0
  have HB1' : Hid ((b1.toNat : Int) = (m : Int) % 256) := hb1
  have hsz := HB1.out.size
  have HBB : Hid (∀ W, Below w.heap.size w W → BytesAt W (.slice a n c) ys ∧ W.cell? ⟨P, 1, none⟩ = some (.slice a n c)) := fun W h => ⟨HB.out.below h, (h.cell (p := ⟨P, 1, none⟩) hPw).trans c1⟩
  clear hb0 hb1
  go_wp2
  go_region_law (first
    | (refine step_append_bytes _ (by rfl) _ _ (by rfl) w.heap.size _ 0 [] (by rfl) (World.ownsRow.alloc (World.ownsRow.drew HROW.out) _) _ [b0, b1] (by rfl) (pair_at (heap_alloc_new _ _) (by have h9 := HB0.out; rw [IntKind.wrap_u8']; omega) (by have h9 := HB1'.out; rw [IntKind.wrap_u8']; omega)) (by simp) (by simp; omega) ?_; intro c2 d2 w2 hr2 hg2 hloc2; have hb2 : Below w.heap.size w w2 := (HB1.out.drew.alloc hsz _).grown hg2 (by simp; omega) (fun j hj => (World.ownsRow.lt HROW.out j hj).1); obtain ⟨hba, hbc⟩ := HBB.out w2 hb2; have HBA : Hid (BytesAt w2 (.slice a n c) ys) := hba; have HR2 : Hid (w2.ownsRow w.heap.size 5 1 (.slice c2 2 d2) 2 (byteVals [b0, b1])) := hr2; have HB2 : Hid (Below w.heap.size w w2) := hb2; clear hr2 hg2 hloc2 hb2 hba))
  all_goals
    go_wp2_with (at_builtin; refine wpList_append_bytes _ rfl _ _ rfl w.heap.size (.slice c2 2 d2) 2 (byteVals [b0, b1]) rfl HR2.out _ ys rfl HBA.out (by rw [← HN.out]; omega) HB2.out.size ?_; intro v3 w3 hr3 hg3 hloc3)
    go_ret
    refine ⟨_, rfl, ?_, HB2.out.grown hg3 HB2.out.size (fun j hj => (World.ownsRow.lt HR2.out j hj).1)⟩
    rw [HLEN.out, HV.out, ← HB0.out, ← HB1'.out, show n + 2 = 2 + ys.length by rw [← HN.out]; omega]
    exact hr3

end Go.Proofs.YtkmclgbiedbfpaaDoor
