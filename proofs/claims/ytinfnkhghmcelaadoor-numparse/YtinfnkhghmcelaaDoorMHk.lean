/- Texts that belong together. -/
import Derived.Test.YtinfnkhghmcelaaDoorMHj
import Derived.Test.YtinfnkhghmcelaaDoorMPp
/- The two ways to cut an exponent come to the same float (pure). -/
namespace Go.Proofs.YtinfnkhghmcelaaDoor
open Go

/-- The two cuts of one row of digits: alike, or both great. -/
def CutsEq (a b : Nat) : Prop := a = b ∨ (1000000 ≤ a ∧ 1000000 ≤ b)
theorem cuts : ∀ (l : List UInt8) (a b : Nat), a ≤ 1048576 → b ≤ 10000000 → CutsEq a b →
    (expF l a = none ∧ expQ l b = none) ∨ ∃ x y, expF l a = some x ∧ expQ l b = some y ∧ CutsEq x y ∧ x ≤ 1048576 ∧ y ≤ 10000000
  | [], a, b, ha, hb, h => Or.inr ⟨a, b, rfl, rfl, h, ha, hb⟩
  | c :: t, a, b, ha, hb, h => by
    by_cases hd : 48 ≤ c.toNat ∧ c.toNat ≤ 57
    · rw [expF, if_pos hd, expQ, if_pos hd]
      refine cuts t _ _ (Nat.min_le_right _ _) ?_ ?_
      · split <;> omega
      · rcases h with rfl | ⟨h1, h2⟩
        · by_cases hs : a < 1000000
          · rw [if_pos hs]
            by_cases hm : a * 10 + (c.toNat - 48) ≤ 1048576
            · rw [Nat.min_eq_left hm]
              exact Or.inl rfl
            · rw [Nat.min_eq_right (by omega)]
              exact Or.inr ⟨by omega, by omega⟩
          · rw [if_neg hs, Nat.min_eq_right (by omega)]
            exact Or.inr ⟨by omega, by omega⟩
        · rw [if_neg (by omega), Nat.min_eq_right (by omega)]
          exact Or.inr ⟨by omega, by omega⟩
    · rw [expF, if_neg hd, expQ, if_neg hd]
      exact Or.inl ⟨rfl, rfl⟩
theorem good_low {ds : List UInt8} (h : GoodD ds) (hne : ds ≠ []) : 10 ^ (ds.length - 1) ≤ valD ds := by
  cases ds with
  | nil => exact absurd rfl hne
  | cons d t =>
    have h1 := h.2 d rfl
    rw [valD_cons, List.length_cons, Nat.add_sub_cancel]
    have h2 : 1 * 10 ^ t.length ≤ d.toNat * 10 ^ t.length := Nat.mul_le_mul_right _ (by omega)
    omega
theorem good_zero {ds : List UInt8} (h : GoodD ds) : valD ds = 0 ↔ ds = [] := by
  constructor
  · intro h0
    cases hd : ds with
    | nil => rfl
    | cons d t =>
      have h1 := good_low h (by rw [hd]; simp)
      have h2 : 0 < 10 ^ (ds.length - 1) := Nat.pow_pos (by decide)
      omega
  · rintro rfl
    rfl
/-- Whatever the document finds nearest, the program finds. -/
theorem near_same {ds : List UInt8} (hg : GoodD ds) (hl : ds.length ≤ 400) {p q : Int} {R : Nat} (hp : p = q ∨ (90000 ≤ p ∧ 90000 ≤ q) ∨ (p ≤ -90000 ∧ q ≤ -90000)) (hR : NearF (valD ds * 10 ^ q.toNat) (10 ^ (-q).toNat) R) : R = nearN ds p := by
  have hN := nearN_near hg p
  have hpos : ∀ x : Int, 0 < 10 ^ x.toNat := fun x => Nat.pow_pos (by decide)
  have hup := valD_lt ds hg.1
  rcases hp with rfl | ⟨h1, h2⟩ | ⟨h1, h2⟩
  · exact hR.one hN (hpos _) (hpos _) rfl
  · by_cases h0 : ds = []
    · subst h0
      have z : ∀ x : Int, NearF (valD [] * 10 ^ x.toNat) (10 ^ (-x).toNat) 0 := fun x => by
        rw [show valD [] = 0 from rfl, Nat.zero_mul]
        exact NearF.zero (by rw [Nat.zero_mul]; exact hpos _)
      rw [hR.one (z q) (hpos _) (hpos _) rfl]
      exact (z p).one hN (hpos _) (hpos _) rfl
    · have hn1 : 1 ≤ ds.length := List.length_pos_iff.2 h0
      have hlo := good_low hg h0
      have z : ∀ x : Int, 90000 ≤ x → NearF (valD ds * 10 ^ x.toNat) (10 ^ (-x).toNat) 9218868437227405312 := fun x hx => near_huge hn1 hlo (by omega)
      rw [hR.one (z q h2) (hpos _) (hpos _) rfl]
      exact (z p h1).one hN (hpos _) (hpos _) rfl
  · have z : ∀ x : Int, x ≤ -90000 → NearF (valD ds * 10 ^ x.toNat) (10 ^ (-x).toNat) 0 := fun x hx => near_tiny hup (by omega)
    rw [hR.one (z q h2) (hpos _) (hpos _) rfl]
    exact (z p h1).one hN (hpos _) (hpos _) rfl
end Go.Proofs.YtinfnkhghmcelaaDoor

/- A number that the document is reading, in memory. -/
namespace Go.Proofs.YtinfnkhghmcelaaDoor
open Go.RowKit Go.Maps

theorem num_not_row {w : World} {b base n : Nat} {v v0 v1 : Value} {xs : List Value} (h : w.heap[b]? = some (.cells #[v0, v1] 55 (0, 0))) (hr : w.ownsRow base 3 1 v n xs) : some b ≠ v.ownBlock := fun e => by
  rcases hr.2 with ⟨rfl, _⟩ | ⟨g, cap, cur, rfl, _, hg, _⟩
  · cases e
  · obtain rfl : b = g := by simpa [Value.ownBlock] using e
    rw [h] at hg
    injection hg with h9
    injection h9 with _ h8
    exact absurd h8 (by decide)
theorem num_cells4 {w : World} {b : Nat} {v0 v1 : Value} (h : w.heap[b]? = some (.cells #[v0, v1] 55 (0, 0))) : w.cell? ⟨b, 0, none⟩ = some v0 ∧ w.cell? ⟨b, 1, none⟩ = some v1 ∧ w.frozen? ⟨b, 0, none⟩ = false ∧ w.frozen? ⟨b, 1, none⟩ = false := by
  simp [World.cell?, World.frozen?, h]
theorem num_set0 {w : World} {b : Nat} {v0 v1 : Value} (h : w.heap[b]? = some (.cells #[v0, v1] 55 (0, 0))) (u : Value) : (w.setCell ⟨b, 0, none⟩ u).heap[b]? = some (.cells #[u, v1] 55 (0, 0)) := by
  rw [heap_setCell_same h]; rfl
theorem num_set1 {w : World} {b : Nat} {v0 v1 : Value} (h : w.heap[b]? = some (.cells #[v0, v1] 55 (0, 0))) (u : Value) : (w.setCell ⟨b, 1, none⟩ u).heap[b]? = some (.cells #[v0, u] 55 (0, 0)) := by
  rw [heap_setCell_same h]; rfl
/-- A number under way: its digits say V, its exponent is p. -/
structure XAt (B : Nat) (w W : World) (a : Option Addr) (l c V : Nat) (p : Int) : Prop where
  x : W.heap[B]? = some (.cells #[.slice a l c, .int .i64 p] 55 (0, 0))
  len : l = (digQ V).length
  row : W.ownsRow B 3 1 (.slice a l c) l (i64s (digQ V))
  bel : Below w.heap.size w W
  low : w.heap.size ≤ B
theorem XAt.q {B : Nat} {w W : World} {a : Option Addr} {l c V : Nat} {p : Int} (h : XAt B w W a l c V p) : QAt W (.slice a l c) V := by
  have h1 := h.row
  have h2 := h.len
  subst h2
  exact DRow.at (base := B) h1
theorem XAt.power {B : Nat} {w W : World} {a : Option Addr} {l c V : Nat} {p : Int} (h : XAt B w W a l c V p) (p' : Int) : XAt B w (W.setCell ⟨B, 1, none⟩ (.int .i64 p')) a l c V p' where
  x := num_set1 h.x _
  len := h.len
  row := by
    have hne := num_not_row h.x h.row
    exact World.ownsRow.kept h.row ⟨rfl, rfl, rfl, by simp [World.setCell], fun k _ hk => Below.heap_setCell W ⟨B, 1, none⟩ _ k (fun e => hk (congrArg some e))⟩ (Or.inr fun e => hne e.symm)
  bel := h.bel.setCell (p := ⟨B, 1, none⟩) h.low _
  low := h.low
/-- Other digits. -/
theorem XAt.digit {B : Nat} {w W W1 : World} {a a' : Option Addr} {l c V c' V' : Nat} {p : Int} (h : XAt B w W a l c V p) (hb : Below W.heap.size W W1) (hr : DRow W1 W.heap.size (.slice a' (digQ V').length c') (digQ V')) : (W1.heap[B]? = some (.cells #[.slice a l c, .int .i64 p] 55 (0, 0))) ∧ XAt B w (W1.setCell ⟨B, 0, none⟩ (.slice a' (digQ V').length c')) a' (digQ V').length c' V' p := by
  have hlt : B < W.heap.size := (Array.getElem?_eq_some_iff.1 h.x).1
  have hx1 := (hb.block B hlt).trans h.x
  have hr' : W1.ownsRow B 3 1 (.slice a' (digQ V').length c') (digQ V').length (i64s (digQ V')) := row_mono hr (Nat.le_of_lt hlt)
  refine ⟨hx1, num_set0 hx1 _, rfl, ?_, (h.bel.trans (hb.mono h.bel.size)).setCell (p := ⟨B, 0, none⟩) h.low _, h.low⟩
  have hne := num_not_row hx1 hr'
  exact World.ownsRow.kept hr' ⟨rfl, rfl, rfl, by simp [World.setCell], fun k _ hk => Below.heap_setCell W1 ⟨B, 0, none⟩ _ k (fun e => hk (congrArg some e))⟩ (Or.inr fun e => hne e.symm)
theorem XAt.drewN {B : Nat} {w W : World} {a : Option Addr} {l c V : Nat} {p : Int} (h : XAt B w W a l c V p) (q : Nat) : XAt B w (W.drewN q) a l c V p := by
  have hb := below_drewN (Below.refl W.heap.size W) q
  exact ⟨(hb.block _ (Array.getElem?_eq_some_iff.1 h.x).1).trans h.x, h.len, row_below h.row hb, below_drewN h.bel q, h.low⟩
theorem XAt.start {w W : World} (hb : Below w.heap.size w W) : XAt W.heap.size w (W.alloc (.cells #[.slice none 0 0, .int .i64 0] 55)) none 0 0 0 0 :=
  ⟨heap_alloc_new W _, by rw [digQ_zero]; rfl, by rw [digQ_zero]; exact World.ownsRow_nil _ _ _ _, hb.alloc hb.size _, hb.size⟩
/-- A digit more in the row of those that count. -/
theorem good_more {ds : List UInt8} (h : GoodD ds) {b : UInt8} (hb : 48 ≤ b.toNat ∧ b.toNat ≤ 57) : ∃ ds' : List UInt8, ds' = (if b.toNat ≠ 48 ∨ ds ≠ [] then ds ++ [UInt8.ofNat (b.toNat - 48)] else ds) ∧ GoodD ds' ∧ valD ds' = valD ds * 10 + (b.toNat - 48) ∧ ds'.length = (if valD ds' = 0 then ds.length else ds.length + 1) := by
  have e : (UInt8.ofNat (b.toNat - 48)).toNat = b.toNat - 48 := by rw [UInt8.toNat_ofNat']; omega
  by_cases hc : b.toNat ≠ 48 ∨ ds ≠ []
  · have hv : valD (ds ++ [UInt8.ofNat (b.toNat - 48)]) = valD ds * 10 + (b.toNat - 48) := by rw [valD_snoc, e]
    have hg : GoodD (ds ++ [UInt8.ofNat (b.toNat - 48)]) := by
      refine ⟨fun d hd => ?_, fun d hd => ?_⟩
      · rcases List.mem_append.1 hd with h1 | h1
        · exact h.1 d h1
        · rw [List.mem_singleton.1 h1, e]; omega
      · cases ds with
        | nil =>
          simp at hd
          rw [← hd, e]
          simp at hc
          omega
        | cons x y => exact h.2 d hd
    refine ⟨_, (if_pos hc).symm, hg, hv, ?_⟩
    have hnz : valD (ds ++ [UInt8.ofNat (b.toNat - 48)]) ≠ 0 := fun h0 => by
      have := (good_zero hg).1 h0
      simp at this
    rw [if_neg hnz]
    simp
  · have hc1 : b.toNat = 48 := Classical.byContradiction fun h1 => hc (Or.inl h1)
    have hc2 : ds = [] := Classical.byContradiction fun h1 => hc (Or.inr h1)
    refine ⟨ds, (if_neg hc).symm, h, ?_, ?_⟩
    · rw [hc2, hc1]; rfl
    · rw [hc2]; rfl
end Go.Proofs.YtinfnkhghmcelaaDoor
