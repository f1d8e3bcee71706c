/- Texts that belong together. -/
import Derived.Test.YtfckdleahljdeaaGreatDoorMHj
import Derived.Test.YtfckdleahljdeaaGreatDoorMQn
import Derived.Test.YtfckdleahljdeaaGreatDoorMDh
import Derived.Deep.CutRange
/- The two ways to cut an exponent come to the same float (pure). -/
namespace Go.Proofs.YtfckdleahljdeaaGreatDoor.Nu
open Go

/-- The two cuts of one row of digits: alike, or both great. -/
def CutsEq (a b : Nat) : Prop := a = b ∨ (1000000 ≤ a ∧ 1000000 ≤ b)
theorem cuts : ∀ (l : List UInt8) (a b : Nat), a ≤ 1048576 → b ≤ 10000000 → CutsEq a b →
    (expF l a = none ∧ expQ l b = none) ∨ ∃ x y, expF l a = some x ∧ expQ l b = some y ∧ CutsEq x y ∧ x ≤ 1048576 ∧ y ≤ 10000000
  | [], a, b, ha, hb, h => Or.inr ⟨a, b, rfl, rfl, h, ha, hb⟩
  | c :: t, a, b, ha, hb, h => by
    by_cases hd : 48 ≤ c.toNat ∧ c.toNat ≤ 57
    · rw [expF, if_pos hd, expQ, if_pos hd]
      refine cuts t _ _ (Nat.min_le_right _ _) ?_ ?_
      · split <;> omega
      · rcases h with rfl | ⟨h1, h2⟩
        · by_cases hs : a < 1000000
          · rw [if_pos hs]
            by_cases hm : a * 10 + (c.toNat - 48) ≤ 1048576
            · rw [Nat.min_eq_left hm]
              exact Or.inl rfl
            · rw [Nat.min_eq_right (by omega)]
              exact Or.inr ⟨by omega, by omega⟩
          · rw [if_neg hs, Nat.min_eq_right (by omega)]
            exact Or.inr ⟨by omega, by omega⟩
        · rw [if_neg (by omega), Nat.min_eq_right (by omega)]
          exact Or.inr ⟨by omega, by omega⟩
    · rw [expF, if_neg hd, expQ, if_neg hd]
      exact Or.inl ⟨rfl, rfl⟩
theorem good_low {ds : List UInt8} (h : GoodD ds) (hne : ds ≠ []) : 10 ^ (ds.length - 1) ≤ valD ds := by
  cases ds with
  | nil => exact absurd rfl hne
  | cons d t =>
    have h1 := h.2 d rfl
    rw [valD_cons, List.length_cons, Nat.add_sub_cancel]
    have h2 : 1 * 10 ^ t.length ≤ d.toNat * 10 ^ t.length := Nat.mul_le_mul_right _ (by omega)
    omega
theorem good_zero {ds : List UInt8} (h : GoodD ds) : valD ds = 0 ↔ ds = [] := by
  constructor
  · intro h0
    cases hd : ds with
    | nil => rfl
    | cons d t =>
      have h1 := good_low h (by rw [hd]; simp)
      have h2 : 0 < 10 ^ (ds.length - 1) := Nat.pow_pos (by decide)
      omega
  · rintro rfl
    rfl
/-- Whatever the document finds nearest, the program finds. -/
theorem near_same {ds : List UInt8} (hg : GoodD ds) (hl : ds.length ≤ 400) {p q : Int} {R : Nat} (hp : p = q ∨ (90000 ≤ p ∧ 90000 ≤ q) ∨ (p ≤ -90000 ∧ q ≤ -90000)) (hR : NearF (valD ds * 10 ^ q.toNat) (10 ^ (-q).toNat) R) : R = nearN ds p := by
  have hN := nearN_near hg p
  have hpos : ∀ x : Int, 0 < 10 ^ x.toNat := fun x => Nat.pow_pos (by decide)
  have hup := valD_lt ds hg.1
  rcases hp with rfl | ⟨h1, h2⟩ | ⟨h1, h2⟩
  · exact hR.one hN (hpos _) (hpos _) rfl
  · by_cases h0 : ds = []
    · subst h0
      have z : ∀ x : Int, NearF (valD [] * 10 ^ x.toNat) (10 ^ (-x).toNat) 0 := fun x => by
        rw [show valD [] = 0 from rfl, Nat.zero_mul]
        exact NearF.zero (by rw [Nat.zero_mul]; exact hpos _)
      rw [hR.one (z q) (hpos _) (hpos _) rfl]
      exact (z p).one hN (hpos _) (hpos _) rfl
    · have hn1 : 1 ≤ ds.length := List.length_pos_iff.2 h0
      have hlo := good_low hg h0
      have z : ∀ x : Int, 90000 ≤ x → NearF (valD ds * 10 ^ x.toNat) (10 ^ (-x).toNat) 9218868437227405312 := fun x hx => near_huge hn1 hlo (by omega)
      rw [hR.one (z q h2) (hpos _) (hpos _) rfl]
      exact (z p h1).one hN (hpos _) (hpos _) rfl
  · have z : ∀ x : Int, x ≤ -90000 → NearF (valD ds * 10 ^ x.toNat) (10 ^ (-x).toNat) 0 := fun x hx => near_tiny hup (by omega)
    rw [hR.one (z q h2) (hpos _) (hpos _) rfl]
    exact (z p h1).one hN (hpos _) (hpos _) rfl
end Go.Proofs.YtfckdleahljdeaaGreatDoor.Nu

/- A number that the document is reading, in memory. -/
namespace Go.Proofs.YtfckdleahljdeaaGreatDoor.Nu
open Go.RowKit Go.Maps

theorem num_not_row {w : World} {b base n : Nat} {v v0 v1 : Value} {xs : List Value} (h : w.heap[b]? = some (.cells #[v0, v1] 107 (0, 0))) (hr : w.ownsRow base 3 1 v n xs) : some b ≠ v.ownBlock := fun e => by
  rcases hr.2 with ⟨rfl, _⟩ | ⟨g, cap, cur, rfl, _, hg, _⟩
  · cases e
  · obtain rfl : b = g := by simpa [Value.ownBlock] using e
    rw [h] at hg
    injection hg with h9
    injection h9 with _ h8
    exact absurd h8 (by decide)
theorem num_cells4 {w : World} {b : Nat} {v0 v1 : Value} (h : w.heap[b]? = some (.cells #[v0, v1] 107 (0, 0))) : w.cell? ⟨b, 0, none⟩ = some v0 ∧ w.cell? ⟨b, 1, none⟩ = some v1 ∧ w.frozen? ⟨b, 0, none⟩ = false ∧ w.frozen? ⟨b, 1, none⟩ = false := by
  simp [World.cell?, World.frozen?, h]
theorem num_set0 {w : World} {b : Nat} {v0 v1 : Value} (h : w.heap[b]? = some (.cells #[v0, v1] 107 (0, 0))) (u : Value) : (w.setCell ⟨b, 0, none⟩ u).heap[b]? = some (.cells #[u, v1] 107 (0, 0)) := by
  rw [heap_setCell_same h]; rfl
theorem num_set1 {w : World} {b : Nat} {v0 v1 : Value} (h : w.heap[b]? = some (.cells #[v0, v1] 107 (0, 0))) (u : Value) : (w.setCell ⟨b, 1, none⟩ u).heap[b]? = some (.cells #[v0, u] 107 (0, 0)) := by
  rw [heap_setCell_same h]; rfl
/-- A number under way: its digits say V, its exponent is p. -/
structure XAt (B : Nat) (w W : World) (a : Option Addr) (l c V : Nat) (p : Int) : Prop where
  x : W.heap[B]? = some (.cells #[.slice a l c, .int .i64 p] 107 (0, 0))
  len : l = (digQ V).length
  row : W.ownsRow B 3 1 (.slice a l c) l (i64s (digQ V))
  bel : Below w.heap.size w W
  low : w.heap.size ≤ B
theorem XAt.q {B : Nat} {w W : World} {a : Option Addr} {l c V : Nat} {p : Int} (h : XAt B w W a l c V p) : QAt W (.slice a l c) V := by
  have h1 := h.row
  have h2 := h.len
  subst h2
  exact DRow.at (base := B) h1
theorem XAt.power {B : Nat} {w W : World} {a : Option Addr} {l c V : Nat} {p : Int} (h : XAt B w W a l c V p) (p' : Int) : XAt B w (W.setCell ⟨B, 1, none⟩ (.int .i64 p')) a l c V p' where
  x := num_set1 h.x _
  len := h.len
  row := by
    have hne := num_not_row h.x h.row
    exact World.ownsRow.kept h.row ⟨rfl, rfl, rfl, by simp [World.setCell], fun k _ hk => Below.heap_setCell W ⟨B, 1, none⟩ _ k (fun e => hk (congrArg some e))⟩ (Or.inr fun e => hne e.symm)
  bel := h.bel.setCell (p := ⟨B, 1, none⟩) h.low _
  low := h.low
/-- Other digits. -/
theorem XAt.digit {B : Nat} {w W W1 : World} {a a' : Option Addr} {l c V c' V' : Nat} {p : Int} (h : XAt B w W a l c V p) (hb : Below W.heap.size W W1) (hr : DRow W1 W.heap.size (.slice a' (digQ V').length c') (digQ V')) : (W1.heap[B]? = some (.cells #[.slice a l c, .int .i64 p] 107 (0, 0))) ∧ XAt B w (W1.setCell ⟨B, 0, none⟩ (.slice a' (digQ V').length c')) a' (digQ V').length c' V' p := by
  have hlt : B < W.heap.size := (Array.getElem?_eq_some_iff.1 h.x).1
  have hx1 := (hb.block B hlt).trans h.x
  have hr' : W1.ownsRow B 3 1 (.slice a' (digQ V').length c') (digQ V').length (i64s (digQ V')) := row_mono hr (Nat.le_of_lt hlt)
  refine ⟨hx1, num_set0 hx1 _, rfl, ?_, (h.bel.trans (hb.mono h.bel.size)).setCell (p := ⟨B, 0, none⟩) h.low _, h.low⟩
  have hne := num_not_row hx1 hr'
  exact World.ownsRow.kept hr' ⟨rfl, rfl, rfl, by simp [World.setCell], fun k _ hk => Below.heap_setCell W1 ⟨B, 0, none⟩ _ k (fun e => hk (congrArg some e))⟩ (Or.inr fun e => hne e.symm)
theorem XAt.drewN {B : Nat} {w W : World} {a : Option Addr} {l c V : Nat} {p : Int} (h : XAt B w W a l c V p) (q : Nat) : XAt B w (W.drewN q) a l c V p := by
  have hb := below_drewN (Below.refl W.heap.size W) q
  exact ⟨(hb.block _ (Array.getElem?_eq_some_iff.1 h.x).1).trans h.x, h.len, row_below h.row hb, below_drewN h.bel q, h.low⟩
theorem XAt.start {w W : World} (hb : Below w.heap.size w W) : XAt W.heap.size w (W.alloc (.cells #[.slice none 0 0, .int .i64 0] 107)) none 0 0 0 0 :=
  ⟨heap_alloc_new W _, by rw [digQ_zero]; rfl, by rw [digQ_zero]; exact World.ownsRow_nil _ _ _ _, hb.alloc hb.size _, hb.size⟩
/-- A digit more in the row of those that count. -/
theorem good_more {ds : List UInt8} (h : GoodD ds) {b : UInt8} (hb : 48 ≤ b.toNat ∧ b.toNat ≤ 57) : ∃ ds' : List UInt8, ds' = (if b.toNat ≠ 48 ∨ ds ≠ [] then ds ++ [UInt8.ofNat (b.toNat - 48)] else ds) ∧ GoodD ds' ∧ valD ds' = valD ds * 10 + (b.toNat - 48) ∧ ds'.length = (if valD ds' = 0 then ds.length else ds.length + 1) := by
  have e : (UInt8.ofNat (b.toNat - 48)).toNat = b.toNat - 48 := by rw [UInt8.toNat_ofNat']; omega
  by_cases hc : b.toNat ≠ 48 ∨ ds ≠ []
  · have hv : valD (ds ++ [UInt8.ofNat (b.toNat - 48)]) = valD ds * 10 + (b.toNat - 48) := by rw [valD_snoc, e]
    have hg : GoodD (ds ++ [UInt8.ofNat (b.toNat - 48)]) := by
      refine ⟨fun d hd => ?_, fun d hd => ?_⟩
      · rcases List.mem_append.1 hd with h1 | h1
        · exact h.1 d h1
        · rw [List.mem_singleton.1 h1, e]; omega
      · cases ds with
        | nil =>
          simp at hd
          rw [← hd, e]
          simp at hc
          omega
        | cons x y => exact h.2 d hd
    refine ⟨_, (if_pos hc).symm, hg, hv, ?_⟩
    have hnz : valD (ds ++ [UInt8.ofNat (b.toNat - 48)]) ≠ 0 := fun h0 => by
      have := (good_zero hg).1 h0
      simp at this
    rw [if_neg hnz]
    simp
  · have hc1 : b.toNat = 48 := Classical.byContradiction fun h1 => hc (Or.inl h1)
    have hc2 : ds = [] := Classical.byContradiction fun h1 => hc (Or.inr h1)
    refine ⟨ds, (if_neg hc).symm, h, ?_, ?_⟩
    · rw [hc2, hc1]; rfl
    · rw [hc2]; rfl
end Go.Proofs.YtfckdleahljdeaaGreatDoor.Nu

/- The document's exponent at every text; what it reads is what the program reads (pure). -/
namespace Go.Proofs.YtfckdleahljdeaaGreatDoor.Nu
open Go.RowKit Go.Maps

def expS (s : ByteArray) : Int × Bool := if hdB s = 101 ∨ hdB s = 69 then expD (s.extract 1 s.size) else (0, false)
theorem hdB_pos {s : ByteArray} (h : 0 < s.size) : hdB s = s[0].toNat := by unfold hdB; rw [dif_pos h]

theorem refExp_any (s : ByteArray) (w : World) (hs : s.size ≤ 1000) (h0 : 0 < s.size) :
    Calls Tryz.prog 75 #[.string s] w fun e w' => e = .returned (.tuple #[.int .i64 (expS s).1, .bool (expS s).2]) ∧ w' = w := by
  have hh := hdB_pos h0
  by_cases he : s[0].toNat = 101 ∨ s[0].toNat = 69
  · have e1 : expS s = expD (s.extract 1 s.size) := by unfold expS; rw [if_pos (by rw [hh]; exact he)]
    rw [e1]
    obtain ⟨t, ht⟩ : ∃ t, s.extract 1 s.size = t := ⟨_, rfl⟩
    rw [ht]
    have hts : t.size ≤ 1000 := by rw [← ht]; simp; omega
    by_cases h0t : 0 < t.size
    · have hht := hdB_pos h0t
      have hrs : (t.extract 1 t.size).size ≤ 1000 := by simp; omega
      by_cases hm : t[0].toNat = 45
      · have hc : cutB t = (t.extract 1 t.size, true) := by unfold cutB; rw [hht, hm]; rfl
        refine refExp_minus s t _ (expD t) w hs h0 he ht hts hrs h0t hm rfl ?_
        show _ = _
        unfold expD
        rw [hc]
        cases expQ (t.extract 1 t.size).data.toList 0 <;> rfl
      · by_cases hp : t[0].toNat = 43
        · have hc : cutB t = (t.extract 1 t.size, false) := by unfold cutB; rw [hht, hp]; rfl
          refine refExp_plus s t _ (expD t) w hs h0 he ht hts hrs h0t hp rfl ?_
          show _ = _
          unfold expD
          rw [hc]
          cases expQ (t.extract 1 t.size).data.toList 0 <;> rfl
        · have hc : cutB t = (t, false) := by unfold cutB; rw [hht, if_neg (by omega)]
          refine refExp_none s t (expD t) w hs h0 he ht hts hts (fun _ => ⟨hp, hm⟩) ?_
          show _ = _
          unfold expD
          rw [hc]
          cases expQ t.data.toList 0 <;> rfl
    · have hc : cutB t = (t, false) := by unfold cutB hdB; rw [dif_neg h0t]; rfl
      refine refExp_none s t (expD t) w hs h0 he ht hts hts (fun h => absurd h h0t) ?_
      show _ = _
      unfold expD
      rw [hc]
      cases expQ t.data.toList 0 <;> rfl
  · have e1 : expS s = (0, false) := by unfold expS; rw [if_neg (by rw [hh]; exact he)]
    rw [e1]
    exact refExp_bad s w hs h0 (fun h => he (Or.inl h)) (fun h => he (Or.inr h))

theorem exp_same (u : ByteArray) : ((expD u).2 = false ∧ (expR u).2 = false) ∨ ((expD u).2 = true ∧ (expR u).2 = true ∧ -10000000 ≤ (expD u).1 ∧ (expD u).1 ≤ 10000000 ∧ ((expR u).1 = (expD u).1 ∨ (1000000 ≤ (expR u).1 ∧ 1000000 ≤ (expD u).1) ∨ ((expR u).1 ≤ -1000000 ∧ (expD u).1 ≤ -1000000))) := by
  unfold expD expR
  rcases cuts (cutB u).1.data.toList 0 0 (by omega) (by omega) (Or.inl rfl) with ⟨h1, h2⟩ | ⟨x, y, h1, h2, hc, hx, hy⟩
  · rw [h1, h2]
    left
    refine ⟨rfl, ?_⟩
    split <;> rfl
  · rw [h1, h2]
    by_cases h0 : (cutB u).1.size = 0
    · left
      rw [if_pos h0]
      exact ⟨decide_eq_false (by omega), rfl⟩
    · right
      rw [if_neg h0]
      unfold CutsEq at hc
      refine ⟨decide_eq_true (by omega), rfl, ?_⟩
      cases (cutB u).2
      · show -10000000 ≤ (y : Int) ∧ (y : Int) ≤ 10000000 ∧ ((x : Int) = (y : Int) ∨ (1000000 ≤ (x : Int) ∧ 1000000 ≤ (y : Int)) ∨ ((x : Int) ≤ -1000000 ∧ (y : Int) ≤ -1000000))
        omega
      · show -10000000 ≤ -(y : Int) ∧ -(y : Int) ≤ 10000000 ∧ (-(x : Int) = -(y : Int) ∨ (1000000 ≤ -(x : Int) ∧ 1000000 ≤ -(y : Int)) ∨ (-(x : Int) ≤ -1000000 ∧ -(y : Int) ≤ -1000000))
        omega

/-- Where the digits end there. -/
theorem doc_end {t : ByteArray} {ds : List UInt8} {p : Int} {n : Nat} (h : scanD t.data.toList [] 0 0 false = (ds, p, n, [])) (hn : n ≠ 0) : decR t = some (ds, p) := by
  unfold decR
  rw [h]
  simp [hn]
theorem doc_none {t : ByteArray} {ds r : List UInt8} {p : Int} (h : scanD t.data.toList [] 0 0 false = (ds, p, 0, r)) : decR t = none := by
  unfold decR
  rw [h]
  rfl
/-- Where more is behind them. -/
theorem doc_more {t : ByteArray} (ht : t.size ≤ 400) {ds : List UInt8} {p : Int} {n k : Nat} (h : scanD t.data.toList [] 0 0 false = (ds, p, n, t.data.toList.drop k)) (hn : n ≠ 0) (hk : k < t.size) :
    ((expS (t.extract k t.size)).2 = false ∧ decR t = none) ∨ ((expS (t.extract k t.size)).2 = true ∧ -10000000 ≤ (expS (t.extract k t.size)).1 ∧ (expS (t.extract k t.size)).1 ≤ 10000000 ∧ ∃ q, decR t = some (ds, q) ∧ (q = p + (expS (t.extract k t.size)).1 ∨ (90000 ≤ q ∧ 90000 ≤ p + (expS (t.extract k t.size)).1) ∨ (q ≤ -90000 ∧ p + (expS (t.extract k t.size)).1 ≤ -90000))) := by
  have hg := scan_good t.data.toList [] 0 0 false ⟨fun _ h => (by cases h), fun _ h => (by cases h)⟩
  have hl : t.data.toList.length = t.size := by simp
  rw [h] at hg
  obtain ⟨-, -, g3, g4⟩ := hg
  rw [hl] at g3
  replace g3 : 0 - (t.size : Int) ≤ p := g3
  replace g4 : p ≤ 0 := g4
  have hr : decR t = (if t[k].toNat = 101 ∨ t[k].toNat = 69 then (if (expR (t.extract (k + 1) t.size)).2 then some (ds, p + (expR (t.extract (k + 1) t.size)).1) else none) else none) := by
    unfold decR
    rw [h, drop_byte t k hk, ← ext_drop t (k + 1)]
    simp [hn]
  have hs0 : 0 < (t.extract k t.size).size := by simp; omega
  have hh : hdB (t.extract k t.size) = t[k].toNat := by
    rw [hdB_pos hs0, ByteArray.getElem_extract]
    rfl
  have he : (t.extract k t.size).extract 1 (t.extract k t.size).size = t.extract (k + 1) t.size := by
    rw [ByteArray.extract_extract]
    congr 1
    simp
    omega
  have e1 : expS (t.extract k t.size) = if t[k].toNat = 101 ∨ t[k].toNat = 69 then expD (t.extract (k + 1) t.size) else (0, false) := by
    unfold expS
    rw [hh, he]
  rw [e1, hr]
  by_cases hc : t[k].toNat = 101 ∨ t[k].toNat = 69
  · rw [if_pos hc, if_pos hc]
    rcases exp_same (t.extract (k + 1) t.size) with ⟨h1, h2⟩ | ⟨h1, h2, h3, h4, h5⟩
    · left
      rw [h2]
      exact ⟨h1, rfl⟩
    · right
      rw [if_pos h2]
      refine ⟨h1, h3, h4, _, rfl, ?_⟩
      omega
  · rw [if_neg hc, if_neg hc]
    exact Or.inl ⟨rfl, rfl⟩
end Go.Proofs.YtfckdleahljdeaaGreatDoor.Nu

/- The document's Parse. -/
namespace Go.Proofs.YtfckdleahljdeaaGreatDoor.Nu
open Go.RowKit Go.Maps

/-- Digits are read: so far k bytes. -/
def PI (B : Nat) (w W : World) (t : ByteArray) (P k n m l c V : Nat) (p : Int) (A : Bool) (ds : List UInt8) (a : Option Addr) : Prop :=
  A = decide (0 < n) ∧ m = ds.length ∧ V = valD ds ∧ GoodD ds ∧ (-(k : Int) ≤ p ∧ p ≤ 0) ∧ scanD (t.data.toList.drop k) ds p n (decide (P = 1)) = scanD t.data.toList [] 0 0 false ∧ XAt B w W a l c V p
/-- All are read. -/
def PE (B : Nat) (w W : World) (t : ByteArray) (k n m l c V : Nat) (p : Int) (A : Bool) (ds : List UInt8) (a : Option Addr) : Prop :=
  A = decide (0 < n) ∧ m = ds.length ∧ V = valD ds ∧ GoodD ds ∧ (-(k : Int) ≤ p ∧ p ≤ 0) ∧ scanD t.data.toList [] 0 0 false = (ds, p, n, t.data.toList.drop k) ∧ XAt B w W a l c V p
section
variable {B : Nat} {w W : World} {t : ByteArray} {P k n m l c V : Nat} {p : Int} {A : Bool} {ds : List UInt8} {a : Option Addr}
theorem pi_end (h : PI B w W t P k n m l c V p A ds a) (hlt : ¬ k < t.size) : PE B w W t k n m l c V p A ds a := by
  obtain ⟨h1, h2, h3, h4, h5, h6, h7⟩ := h
  refine ⟨h1, h2, h3, h4, h5, ?_, h7⟩
  rw [← h6, List.drop_of_length_le (by simp; omega)]
  rfl
theorem pi_else (h : PI B w W t P k n m l c V p A ds a) (hlt : k < t.size) (hd : ¬ (48 ≤ t[k].toNat ∧ t[k].toNat ≤ 57)) (hx : t[k].toNat ≠ 46 ∨ P = 1) : PE B w W t k n m l c V p A ds a := by
  obtain ⟨h1, h2, h3, h4, h5, h6, h7⟩ := h
  refine ⟨h1, h2, h3, h4, h5, ?_, h7⟩
  rw [← h6, drop_byte t k hlt, scanD, if_neg hd, if_neg]
  rintro ⟨h8, h9⟩
  rcases hx with hx | hx
  · exact hx h8
  · rw [decide_eq_true hx] at h9
    cases h9
theorem pi_point (h : PI B w W t P k n m l c V p A ds a) (hlt : k < t.size) (h46 : t[k].toNat = 46) (hP : P = 0) : PI B w W t 1 (k + 1) n m l c V p A ds a := by
  obtain ⟨h1, h2, h3, h4, h5, h6, h7⟩ := h
  refine ⟨h1, h2, h3, h4, by omega, ?_, h7⟩
  rw [← h6, drop_byte t k hlt, scanD, if_neg (by omega), if_pos ⟨h46, decide_eq_false (by omega)⟩]
  rfl
theorem good_bound (hg : GoodD ds) (hm : m = ds.length) (hV : V = valD ds) (h : V ≠ 0) : 1 ≤ m ∧ 10 ^ (m - 1) ≤ V ∧ V < 10 ^ m := by
  subst hm hV
  have hne : ds ≠ [] := fun e => h (by rw [e]; rfl)
  exact ⟨List.length_pos_iff.2 hne, good_low hg hne, valD_lt ds hg.1⟩
theorem pi_step (h : PI B w W t P k n m l c V p A ds a) (hlt : k < t.size) (hd : 48 ≤ t[k].toNat ∧ t[k].toNat ≤ 57) (htz : t.size ≤ 400) (hmk : m ≤ k) : ∃ (V' l' : Nat) (ds' : List UInt8), Hid (l' = (digQ V').length ∧ V' = V * 10 + (t[k].toNat - 48) ∧ l' ≤ 2000 ∧
    (l' = 0 → P = 0 → ∀ {W' : World} {a' : Option Addr} {c' : Nat}, XAt B w W' a' l' c' V' p → PI B w W' t P (k + 1) (n + 1) m l' c' V' p true ds' a') ∧
    (l' ≠ 0 → P = 0 → ∀ {W' : World} {a' : Option Addr} {c' : Nat}, XAt B w W' a' l' c' V' p → PI B w W' t P (k + 1) (n + 1) (m + 1) l' c' V' p true ds' a') ∧
    (l' = 0 → P = 1 → ∀ {W' : World} {a' : Option Addr} {c' : Nat}, XAt B w W' a' l' c' V' (p - 1) → PI B w W' t P (k + 1) (n + 1) m l' c' V' (p - 1) true ds' a') ∧
    (l' ≠ 0 → P = 1 → ∀ {W' : World} {a' : Option Addr} {c' : Nat}, XAt B w W' a' l' c' V' (p - 1) → PI B w W' t P (k + 1) (n + 1) (m + 1) l' c' V' (p - 1) true ds' a')) := by
  obtain ⟨-, h2, h3, h4, h5, h6, -⟩ := h
  obtain ⟨ds', hds', hg', hv', hlen'⟩ := good_more h4 hd
  have hv : valD ds' = V * 10 + (t[k].toNat - 48) := by rw [hv', h3]
  have hz : (digQ (valD ds')).length = 0 ↔ valD ds' = 0 := by
    constructor
    · intro h0
      apply Classical.byContradiction
      intro h9
      rw [digQ_pos (by omega)] at h0
      simp at h0
    · intro h0
      rw [h0, digQ_zero]
      rfl
  have hs : scanD (t.data.toList.drop (k + 1)) ds' (if decide (P = 1) = true then p - 1 else p) (n + 1) (decide (P = 1)) = scanD t.data.toList [] 0 0 false := by
    rw [← h6, drop_byte t k hlt, scanD, if_pos hd, hds']
  have hA : true = decide (0 < n + 1) := (decide_eq_true (by omega)).symm
  have s0 : P = 0 → scanD (t.data.toList.drop (k + 1)) ds' p (n + 1) (decide (P = 1)) = scanD t.data.toList [] 0 0 false := fun e => by
    rw [if_neg (by rw [decide_eq_true_eq]; omega)] at hs
    exact hs
  have s1 : P = 1 → scanD (t.data.toList.drop (k + 1)) ds' (p - 1) (n + 1) (decide (P = 1)) = scanD t.data.toList [] 0 0 false := fun e => by
    rw [if_pos (by rw [decide_eq_true_eq]; omega)] at hs
    exact hs
  have m0 : valD ds' = 0 → m = ds'.length := fun e => by rw [hlen', if_pos e, h2]
  have m1 : valD ds' ≠ 0 → m + 1 = ds'.length := fun e => by rw [hlen', if_neg e, h2]
  refine ⟨valD ds', (digQ (valD ds')).length, ds', rfl, hv, ?_, ?_, ?_, ?_, ?_⟩
  · refine Nat.le_trans (digQ_len ds'.length _ (Nat.lt_of_lt_of_le (valD_lt ds' hg'.1) (pow_le4 10 _ (by decide)))) ?_
    rw [hlen']
    split <;> omega
  · exact fun e0 eP _ _ _ hX => ⟨hA, m0 (hz.1 e0), rfl, hg', by omega, s0 eP, hX⟩
  · exact fun e0 eP _ _ _ hX => ⟨hA, m1 (fun e => e0 (hz.2 e)), rfl, hg', by omega, s0 eP, hX⟩
  · exact fun e0 eP _ _ _ hX => ⟨hA, m0 (hz.1 e0), rfl, hg', by omega, s1 eP, hX⟩
  · exact fun e0 eP _ _ _ hX => ⟨hA, m1 (fun e => e0 (hz.2 e)), rfl, hg', by omega, s1 eP, hX⟩
end

theorem refNaN_any (w : World) : Calls Tryz.prog 71 #[] w fun e w' => e = .returned (.float .f64 9221120237041090561) ∧ w' = w := by
  have hfb := frombits_run
  go_enter Tryz.func71, Tryz.ntmps71
  go_wp2
  go_ret
  exact ⟨rfl, rfl⟩
theorem ret_g {a b : Nat} (h : a = b) : Ending.returned (.float .f64 a) = .returned (.float .f64 b) := by rw [h]
theorem refSigned_any (R : Nat) (ng : Bool) (w : World) (hR : R ≤ 9218868437227405312) : Calls Tryz.prog 72 #[.int .u64 R, .bool ng] w fun e w' => e = .returned (.float .f64 (sgB ng R)) ∧ w' = w := by
  have hfb := frombits_run
  cases ng with
  | false =>
    go_enter Tryz.func72, Tryz.ntmps72
    go_wp2
    go_ret
    exact ⟨ret_g (by simp [sgB]), rfl⟩
  | true =>
    have hors := or_sign hR
    go_enter Tryz.func72, Tryz.ntmps72
    go_wp2
    go_ret
    exact ⟨ret_g (by simp [sgB]), rfl⟩

end Go.Proofs.YtfckdleahljdeaaGreatDoor.Nu
