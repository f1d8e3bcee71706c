/- The document's Digits. -/
import Derived.Test.YtinfnkhghmcelaaDoorMJm
import Derived.Test.YtinfnkhghmcelaaDoorMJb
import Derived.Test.YtinfnkhghmcelaaDoorMJc
import Derived.Test.YtinfnkhghmcelaaDoorRg
import Derived.Deep.CutRange
namespace Go.Proofs.YtinfnkhghmcelaaDoor
open Go.RowKit Go.Maps

theorem dgs_len : ∀ (j A B : Nat), (dgs j A B).length = j
  | 0, _, _ => rfl
  | j + 1, A, B => by rw [dgs, List.length_cons, dgs_len j]
theorem dgs_nine : ∀ (j A B : Nat), A < B → ∀ d ∈ dgs j A B, d ≤ 9
  | 0, _, _, _, d, hd => by cases hd
  | j + 1, A, B, h, d, hd => by
    have hB : 0 < B := by omega
    rw [dgs] at hd
    rcases List.mem_cons.1 hd with h9 | h9
    · rw [h9]
      have : A * 10 / B < 10 := Nat.div_lt_of_lt_mul (by omega)
      omega
    · exact dgs_nine j _ B (Nat.mod_lt _ hB) d h9

theorem dgs_head {raw : Nat} (h0 : 0 < raw) (h1 : raw < 9218868437227405312) : 1 ≤ (dgs 18 (AX raw (EX raw)) (BX raw (EX raw))).getD 0 0 := by
  have hf := dig_facts h0 h1
  obtain ⟨q1, q2, q3, q4⟩ := dig_bounds hf
  have q5 := dig_ten hf
  obtain ⟨hr, hB⟩ := AX_ratio hf h0 h1
  have hW : 0 < WX raw := by omega
  rw [dgs_ratio 18 _ _ _ _ hB hW hr, dgs]
  show 1 ≤ vR raw * tR raw * 10 / WX raw
  exact (Nat.le_div_iff_mul_le hW).2 (by omega)
/-- All that the walk wants of the digits. -/
structure ExpF (raw : Nat) (X : Int) (D : List Nat) (x n : Nat) : Prop where
  len : D.length = 18
  nine : ∀ d ∈ D, d ≤ 9
  one : 1 ≤ D.getD 0 0
  doc : docF raw X D 0 0 = some (x, n)
  n1 : 1 ≤ n
  n2 : n ≤ 18
  is : ∀ T : List UInt8, NumT T x → (T = (dgR raw).1 ∧ X - n + T.length = (dgR raw).2) ∨ (T = (dgR raw).1 ++ [48] ∧ (dgR raw).1 = [49] ∧ X - n + T.length = (dgR raw).2)
  last : (dgR raw).1.length ≤ 1 ∨ ∃ p d, (dgR raw).1 = p ++ [d] ∧ d.toNat ≠ 48
theorem expF_of {raw : Nat} (h0 : 0 < raw) (h1 : raw < 9218868437227405312) {X : Int} (hX : leX raw (X - 1) ∧ ¬ leX raw X) : ∃ x n, ExpF raw X (dgs 18 (AX raw X) (BX raw X)) x n := by
  have hf := dig_facts h0 h1
  obtain rfl := X_is hf h0 h1 hX.1 hX.2
  obtain ⟨x, n, h⟩ := fin_of h0 h1
  exact ⟨x, n, dgs_len _ _ _, dgs_nine _ _ _ (AX_lt h0 h1 hX.2), dgs_head h0 h1, h.doc, h.n1, h.n2, h.is, h.last⟩
theorem docF_at {raw : Nat} {X : Int} {D : List Nat} {i K : Nat} (h : i < D.length) : docF raw X (D.drop i) K i = if rdO raw (K * 10 + D.getD i 0) (X - ((i : Int) + 1)) || rdO raw (K * 10 + D.getD i 0 + 1) (X - ((i : Int) + 1)) then some (if upO raw (K * 10 + D.getD i 0) (X - ((i : Int) + 1)) then K * 10 + D.getD i 0 + 1 else K * 10 + D.getD i 0, i + 1) else docF raw X (D.drop (i + 1)) (K * 10 + D.getD i 0) (i + 1) := by
  have e : D.getD i 0 = D[i] := by rw [List.getD_eq_getElem?_getD, List.getElem?_eq_getElem h]; rfl
  rw [e, ← List.getElem_cons_drop h, docF]
  rfl
theorem k_step {i K d : Nat} (h1 : K < 10 ^ i) (h2 : 1 ≤ i → 10 ^ (i - 1) ≤ K) (h3 : i = 0 → 1 ≤ d) (h9 : d ≤ 9) : K * 10 + d < 10 ^ (i + 1) ∧ 10 ^ i ≤ K * 10 + d := by
  rw [Nat.pow_succ]
  refine ⟨by omega, ?_⟩
  rcases Nat.eq_zero_or_pos i with h | h
  · subst h
    have := h3 rfl
    simp
    omega
  · have g := h2 h
    obtain ⟨j, rfl⟩ : ∃ j, i = j + 1 := ⟨i - 1, by omega⟩
    rw [Nat.add_sub_cancel] at g
    rw [Nat.pow_succ]
    omega
/-- The two numbers that are held against a float, in their blocks. -/
def TwoX (W : World) (b : Nat) (a : Option Addr) (l c : Nat) (a' : Option Addr) (l' c' : Nat) (y : Int) : Prop := W.heap[b]? = some (.cells #[.slice a l c, .int .i64 y] 55 (0, 0)) ∧ W.heap[b + 1]? = some (.cells #[.slice a' l' c', .int .i64 y] 55 (0, 0))
theorem TwoX.below {W W' : World} {b : Nat} {a : Option Addr} {l c : Nat} {a' : Option Addr} {l' c' : Nat} {y : Int} (h : TwoX W b a l c a' l' c' y) (hb : Below W.heap.size W W') : TwoX W' b a l c a' l' c' y :=
  ⟨(hb.block _ (Array.getElem?_eq_some_iff.1 h.1).1).trans h.1, (hb.block _ (Array.getElem?_eq_some_iff.1 h.2).1).trans h.2⟩
theorem two_of {a : Option Addr} {l c : Nat} {a' : Option Addr} {l' c' : Nat} {y : Int} (w : World) : TwoX ((w.alloc (.cells #[.slice a l c, .int .i64 y] 55)).alloc (.cells #[.slice a' l' c', .int .i64 y] 55)) w.heap.size a l c a' l' c' y := by
  have hz : (w.alloc (.cells #[.slice a l c, .int .i64 y] 55)).heap.size = w.heap.size + 1 := by simp
  refine ⟨(Below.heap_alloc _ _ _ (by omega)).trans (heap_alloc_new w _), ?_⟩
  have h := heap_alloc_new (w.alloc (.cells #[.slice a l c, .int .i64 y] 55)) (.cells #[.slice a' l' c', .int .i64 y] 55)
  rw [hz] at h
  exact h
theorem two_cells {W : World} {b : Nat} {a : Option Addr} {l c : Nat} {a' : Option Addr} {l' c' : Nat} {y : Int} (h1 : W.heap[b]? = some (.cells #[.slice a l c, .int .i64 y] 55 (0, 0))) (h2 : W.heap[b + 1]? = some (.cells #[.slice a' l' c', .int .i64 y] 55 (0, 0))) : W.cell? ⟨b, 0, none⟩ = some (.slice a l c) ∧ W.cell? ⟨b, 1, none⟩ = some (.int .i64 y) ∧ W.cell? ⟨b + 1, 0, none⟩ = some (.slice a' l' c') ∧ W.cell? ⟨b + 1, 1, none⟩ = some (.int .i64 y) :=
  ⟨(num_cells h1).1, (num_cells h1).2, (num_cells h2).1, (num_cells h2).2⟩
theorem TwoX.cells {W : World} {b : Nat} {a : Option Addr} {l c : Nat} {a' : Option Addr} {l' c' : Nat} {y : Int} (h : TwoX W b a l c a' l' c' y) : W.cell? ⟨b, 0, none⟩ = some (.slice a l c) ∧ W.cell? ⟨b, 1, none⟩ = some (.int .i64 y) ∧ W.cell? ⟨b + 1, 0, none⟩ = some (.slice a' l' c') ∧ W.cell? ⟨b + 1, 1, none⟩ = some (.int .i64 y) := two_cells h.1 h.2
theorem num_cells5 {w : World} {b : Nat} {v0 v1 : Value} (h : w.heap[b]? = some (.cells #[v0, v1] 55 (0, 0))) : w.cell? ⟨b, 0, none⟩ = some v0 ∧ w.cell? ⟨b, 1, none⟩ = some v1 ∧ w.frozen? ⟨b, 0, none⟩ = false ∧ w.frozen? ⟨b, 1, none⟩ = false := by
  simp [World.cell?, World.frozen?, h]
theorem ret_d {a b : ByteArray} {c d : Int} {n : Bool} (h1 : a = b) (h2 : c = d) : Ending.returned (.tuple #[.string a, .int .i64 c, .bool n]) = .returned (.tuple #[.string b, .int .i64 d, .bool n]) := by rw [h1, h2]
/-- A number's lowest digit. -/
theorem q_first {W : World} {a : Option Addr} {l c A : Nat} (h : QAt W (.slice a l c) A) (hA : 0 < A) : ∃ b o, a = some ⟨b, o, none⟩ ∧ b < W.heap.size ∧ W.cell? ⟨b, o, none⟩ = some (.int .i64 ((A % 10000 : Nat) : Int)) := by
  obtain ⟨a', c', e, -, hc⟩ := h
  cases e
  have hl : 0 < (digQ A).length := by rw [digQ_pos hA]; simp
  obtain ⟨b, o, rfl, hb, h1⟩ := hc 0 hl
  refine ⟨b, o, rfl, hb, ?_⟩
  have e2 : (digQ A)[0] = A % 10000 := by
    have e3 : (digQ A)[0]? = some (A % 10000) := by rw [digQ_pos hA]; rfl
    exact Option.some.inj ((List.getElem?_eq_getElem hl).symm.trans e3)
  rw [e2] at h1
  exact h1

set_option maxRecDepth 100000 in
set_option maxHeartbeats 8000000 in
theorem refDigits_main (x raw : Nat) (neg : Bool) (w : World) (hx : x < 18446744073709551616) (hraw : raw = x % 9223372036854775808) (hneg : neg = decide (9223372036854775808 ≤ x)) (h0 : 0 < raw) (h1 : raw < 9218868437227405312) :
    Calls Tryd.prog 12 #[.float .f64 x] w fun e w' => e = .returned (.tuple #[.string ⟨(dgR raw).1.toArray⟩, .int .i64 (dgR raw).2, .bool neg]) ∧ Below w.heap.size w w' := by
  have hfb := floatbits_run
  have han := andnot_sign hx
  rw [← hraw] at han
  have hsh : ((x : Int) / 9223372036854775808 == 1) = neg := by
    rw [hneg]
    by_cases h9 : 9223372036854775808 ≤ x
    · rw [decide_eq_true h9, beq_iff_eq]; omega
    · rw [decide_eq_false h9, beq_eq_false_iff_ne]; omega
  have HEX : Hid (∀ W : World, Calls Tryd.prog 37 #[.int .u64 raw] W fun ee w' => ∃ (X : Int) (a : Option Addr) (c : Nat), ee = .returned (.tuple #[.slice a 18 c, .int .i64 X]) ∧ (leX raw (X - 1) ∧ ¬ leX raw X) ∧ (-330 ≤ X ∧ X ≤ 330) ∧ w'.ownsRow W.heap.size 3 1 (.slice a 18 c) 18 (i64s (dgs 18 (AX raw X) (BX raw X))) ∧ Below W.heap.size W w') := fun W => refExpansion_any raw W h0 h1
  have h0b : ((raw : Int) == 0) = false := by rw [beq_eq_false_iff_ne]; omega
  have h1i : ¬ (9218868437227405312 : Int) ≤ raw := by omega
  have HRD : Hid (∀ (W : World) (a : Option Addr) (l c V j : Nat) (y : Int), QAt W (.slice a l c) V → l ≤ 100000 → V < 10000 ^ 5 → -1000 ≤ y → y ≤ 1000 → Calls Tryd.prog 39 #[.int .u64 raw, .agg #[.slice a l c, .int .i64 y]] W fun ee w' => ee = .returned (.bool (rdO raw V y)) ∧ Below W.heap.size W w') := fun W a l c V j y hq hl hV hy1 hy2 => refReads_any raw V l c 5 y a W hq h0 h1 (by decide) hV hy1 hy2 hl
  have HNR : Hid (∀ (W : World) (a a' : Option Addr) (l c l' c' V : Nat) (y : Int), QAt W (.slice a l c) V → QAt W (.slice a' l' c') (V + 1) → l ≤ 100000 → l' ≤ 100000 → V + (V + 1) < 10000 ^ 5 → -1000 ≤ y → y ≤ 1000 → Calls Tryd.prog 40 #[.int .u64 raw, .agg #[.slice a l c, .int .i64 y], .agg #[.slice a' l' c', .int .i64 y]] W fun ee w' => ee = .returned (.int .i64 (nrO raw V y)) ∧ Below W.heap.size W w') := fun W a a' l c l' c' V y hq hq' hl hl' hV hy1 hy2 => refNearer_any raw V (V + 1) l c l' c' 5 y y a a' W hq hq' h0 h1 (by decide) hV hy1 hy2 hl hl'
  have HEF : Hid (∀ X : Int, leX raw (X - 1) ∧ ¬ leX raw X → ∃ x n, ExpF raw X (dgs 18 (AX raw X) (BX raw X)) x n) := fun X hX => expF_of h0 h1 hX
  clear hraw hneg h0 h1
  go_enter Tryd.func12, Tryd.ntmps12
  go_wp2_with (go_at_call 37; refine (HEX.out _).mono ?_; clear HEX; rintro e9 w1 ⟨X, a1, c1, rfl, hX, ⟨hX1, hX2⟩, hrow, hb1⟩; obtain ⟨xF, nF, hef⟩ := HEF.out X hX; clear HEF hX; generalize dgs 18 (AX raw X) (BX raw X) = D at hrow hef; have HE : Hid (ExpF raw X D xF nF) := hef; have HRW : Hid (w1.ownsRow w.heap.size 3 1 (.slice a1 18 c1) 18 (i64s D)) := hrow; have HB1 : Hid (Below w.heap.size w w1) := hb1; clear hef hrow hb1)
  go_loopw [10, 11] (fun kv nv wr => ∃ (i K : Nat) (a : Option Addr) (l c : Nat), nv = .int .i64 ((i : Int) + 1) ∧ i ≤ 18 ∧ kv = .slice a l c ∧ Hid (QAt wr (.slice a l c) K ∧ K < 10 ^ i ∧ (1 ≤ i → 10 ^ (i - 1) ≤ K) ∧ docF raw X (D.drop i) K i = some (xF, nF) ∧ Below w1.heap.size w1 wr)) (fun _ nv _ => 20 - (intOf nv).toNat)
  case atStart => exact ⟨0, 0, none, 0, 0, rfl, by omega, rfl, QAt.nil _, by decide, fun h => by omega, HE.out.doc, Below.refl _ _⟩
  case round =>
    clear han hsh h0b h1i hx hfb
    obtain ⟨i, K, a, l, c, rfl, hi, rfl, HI⟩ := hrel
    have hi18 : i < 18 := by
      apply Classical.byContradiction
      intro h9
      have h8 := HI.out.2.2.2.1
      rw [List.drop_of_length_le (by rw [HE.out.len]; omega), docF] at h8
      cases h8
    have hiD : i < D.length := by rw [HE.out.len]; exact hi18
    obtain ⟨g, rfl, hg, hcell, hfr⟩ := row_at (row_below HRW.out HI.out.2.2.2.2) HE.out.len.symm hi18
    have hdoc := HI.out.2.2.2.1
    rw [docF_at hiD] at hdoc
    have hd9 : D.getD i 0 ≤ 9 := by
      have e : D.getD i 0 = D[i] := by rw [List.getD_eq_getElem?_getD, List.getElem?_eq_getElem hiD]; rfl
      rw [e]
      exact HE.out.nine _ (List.getElem_mem hiD)
    have hks := k_step (d := D.getD i 0) HI.out.2.1 HI.out.2.2.1 (fun e => by rw [e]; exact HE.out.one) hd9
    generalize D.getD i 0 = d at *
    obtain ⟨K', hK'⟩ : ∃ K', K' = K * 10 + d := ⟨_, rfl⟩
    rw [← hK'] at hdoc hks
    have hp18 : 10 ^ (i + 1) ≤ 10 ^ 18 := Nat.pow_le_pow_right (by decide) (by omega)
    have hp18' : (10 : Nat) ^ 18 = 1000000000000000000 := by decide +kernel
    rw [hp18'] at hp18
    have hKb : K' < 1000000000000000000 := by omega
    have hK0 : 0 < K' := by
      have := Nat.pow_pos (n := i) (show 0 < 10 by decide)
      omega
    have hKl : (digQ K').length ≤ 5 := digQ_len 5 _ (by rw [show (10000 : Nat) ^ 5 = 100000000000000000000 by decide +kernel]; omega)
    have hKl1 : (digQ (K' + 1)).length ≤ 5 := digQ_len 5 _ (by rw [show (10000 : Nat) ^ 5 = 100000000000000000000 by decide +kernel]; omega)
    have HLL : Hid ((digQ K').length ≤ 20 ∧ (digQ (K' + 1)).length ≤ 20) := ⟨by omega, by omega⟩
    have hLp : 0 < (digQ K').length := by rw [digQ_pos hK0]; simp
    have HTM : Hid (Calls Tryd.prog 27 #[.slice a l c, .int .i64 10, .int .i64 d] wr fun e w' => ∃ a c, e = .returned (.slice a (digQ K').length c) ∧ QAt w' (.slice a (digQ K').length c) K' ∧ Below wr.heap.size wr w') := by
      have hK2 : (digQ K).length ≤ 5 := digQ_len 5 _ (by rw [show (10000 : Nat) ^ 5 = 100000000000000000000 by decide +kernel]; omega)
      have h9 := refTimes_nat (.slice a l c) K 10 d wr HI.out.1 (by decide) (by decide) (by omega) (by omega)
      rw [← hK'] at h9
      refine h9.mono ?_
      rintro e w' ⟨v, rfl, hq, ⟨a, c, rfl⟩, -, hb⟩
      exact ⟨a, c, rfl, hq, hb⟩
    have HPL : Hid (∀ (W : World) (a : Option Addr) (c : Nat), QAt W (.slice a (digQ K').length c) K' → Calls Tryd.prog 38 #[.slice a (digQ K').length c] W fun e w' => ∃ a c, e = .returned (.slice a (digQ (K' + 1)).length c) ∧ QAt w' (.slice a (digQ (K' + 1)).length c) (K' + 1) ∧ Below W.heap.size W w') := fun W a c hq => refPlus_any _ K' W hq hK0 (by omega)
    have HBR : Hid (Below w1.heap.size w1 wr) := HI.out.2.2.2.2
    have HKS : Hid (K' < 10 ^ (i + 1) ∧ 10 ^ i ≤ K') := hks
    have HDC : Hid ((if rdO raw K' (X - ((i : Int) + 1)) || rdO raw (K' + 1) (X - ((i : Int) + 1)) then some (if upO raw K' (X - ((i : Int) + 1)) then K' + 1 else K', i + 1) else docF raw X (D.drop (i + 1)) K' (i + 1)) = some (xF, nF)) := hdoc
    have HKB : Hid (K' < 1000000000000000000) := hKb
    clear HI hdoc hks hK' hp18 hp18' hKb
    generalize hL' : (digQ K').length = L' at *
    generalize hL1 : (digQ (K' + 1)).length = L1 at *
    have HLE : Hid ((digQ K').length = L' ∧ (digQ (K' + 1)).length = L1) := ⟨hL', hL1⟩
    clear hL' hL1
    go_upto_region 13 with (first
      | (go_at_call 27; refine HTM.out.mono ?_; clear HTM; rintro e9 w2 ⟨a2, c2, rfl, hq2, hb2⟩; have HQ2 : Hid (QAt w2 (.slice a2 L' c2) K') := hq2; have HB2 : Hid (Below w1.heap.size w1 w2) := HBR.out.trans (hb2.mono HBR.out.size); clear hq2 hb2)
      | (go_at_call 38; refine (HPL.out _ _ _ HQ2.out).mono ?_; clear HPL; rintro e9 w3 ⟨a3, c3, rfl, hq3, hb3⟩; have HQ3 : Hid (QAt w3 (.slice a3 L1 c3) (K' + 1)) := hq3; have HQ2b : Hid (QAt w3 (.slice a2 L' c2) K') := HQ2.out.below hb3; have HB3 : Hid (Below w1.heap.size w1 w3) := HB2.out.trans (hb3.mono HB2.out.size); clear hq3 hb3))
    obtain ⟨W4, hW4⟩ : ∃ W4, W4 = ((w3.alloc (.cells #[.slice a2 L' c2, .int .i64 (X - ((i : Int) + 1))] 55)).alloc (.cells #[.slice a3 L1 c3, .int .i64 (X - ((i : Int) + 1))] 55)) := ⟨_, rfl⟩
    rw [← hW4]
    have hB34 : Below w3.heap.size w3 W4 := by rw [hW4]; exact ((Below.refl _ _).alloc (Nat.le_refl _) _).alloc (by simp) _
    have HT4 : Hid (TwoX W4 w3.heap.size a2 L' c2 a3 L1 c3 (X - ((i : Int) + 1))) := by rw [hW4]; exact two_of _
    have HB4 : Hid (Below w1.heap.size w1 W4) := HB3.out.trans (hB34.mono HB3.out.size)
    have HQ4 : Hid (QAt W4 (.slice a2 L' c2) K' ∧ QAt W4 (.slice a3 L1 c3) (K' + 1)) := ⟨HQ2b.out.below hB34, HQ3.out.below hB34⟩
    obtain ⟨okA, hokA⟩ : ∃ okA, okA = rdO raw K' (X - ((i : Int) + 1)) := ⟨_, rfl⟩
    obtain ⟨okB, hokB⟩ : ∃ okB, okB = rdO raw (K' + 1) (X - ((i : Int) + 1)) := ⟨_, rfl⟩
    have hV5 : (10000 : Nat) ^ 5 = 100000000000000000000 := by decide +kernel
    have HRA : Hid (∀ W : World, Below W4.heap.size W4 W → Calls Tryd.prog 39 #[.int .u64 raw, .agg #[.slice a2 L' c2, .int .i64 (X - ((i : Int) + 1))]] W fun ee w' => ee = .returned (.bool okA) ∧ Below W.heap.size W w') := fun W hW => by
      rw [hokA]
      exact HRD.out W a2 L' c2 K' 0 _ (HQ4.out.1.below hW) (by omega) (by rw [hV5]; have := HKB.out; omega) (by omega) (by omega)
    have HRB : Hid (∀ W : World, Below W4.heap.size W4 W → Calls Tryd.prog 39 #[.int .u64 raw, .agg #[.slice a3 L1 c3, .int .i64 (X - ((i : Int) + 1))]] W fun ee w' => ee = .returned (.bool okB) ∧ Below W.heap.size W w') := fun W hW => by
      rw [hokB]
      exact HRD.out W a3 L1 c3 (K' + 1) 0 _ (HQ4.out.2.below hW) (by omega) (by rw [hV5]; have := HKB.out; omega) (by omega) (by omega)
    have HNA : Hid (∀ W : World, Below W4.heap.size W4 W → Calls Tryd.prog 40 #[.int .u64 raw, .agg #[.slice a2 L' c2, .int .i64 (X - ((i : Int) + 1))], .agg #[.slice a3 L1 c3, .int .i64 (X - ((i : Int) + 1))]] W fun ee w' => ee = .returned (.int .i64 (nrO raw K' (X - ((i : Int) + 1)))) ∧ Below W.heap.size W w') := fun W hW => HNR.out W a2 a3 L' c2 L1 c3 K' _ (HQ4.out.1.below hW) (HQ4.out.2.below hW) (by omega) (by omega) (by rw [hV5]; have := HKB.out; omega) (by omega) (by omega)
    have hnr3 := cmpN_three (2 * magF raw * 10 ^ (-(X - ((i : Int) + 1))).toNat) ((K' + (K' + 1)) * 10 ^ (X - ((i : Int) + 1)).toNat * U74)
    have HN3 : Hid (nrO raw K' (X - ((i : Int) + 1)) = 1 ∨ nrO raw K' (X - ((i : Int) + 1)) = 0 ∨ nrO raw K' (X - ((i : Int) + 1)) = -1) := hnr3
    have HUP : Hid (upO raw K' (X - ((i : Int) + 1)) = (!okA || (okB && (decide (0 < nrO raw K' (X - ((i : Int) + 1))) || (decide (nrO raw K' (X - ((i : Int) + 1)) = 0) && decide (K' % 2 = 1)))))) := by rw [hokA, hokB]; rfl
    rw [← hokA, ← hokB] at HDC
    have HTA : Hid (∀ W : World, QAt W (.slice a2 L' c2) K' → Calls Tryd.prog 41 #[.slice a2 L' c2] W fun e w' => ∃ T : List UInt8, e = .returned (.string ⟨T.toArray⟩) ∧ NumT T K' ∧ T.length ≤ 80 ∧ Below W.heap.size W w') := fun W hq => refText_nat _ K' W hq hK0 (by rw [HLE.out.1]; exact HLL.out.1)
    have HTB : Hid (∀ W : World, QAt W (.slice a3 L1 c3) (K' + 1) → Calls Tryd.prog 41 #[.slice a3 L1 c3] W fun e w' => ∃ T : List UInt8, e = .returned (.string ⟨T.toArray⟩) ∧ NumT T (K' + 1) ∧ T.length ≤ 80 ∧ Below W.heap.size W w') := fun W hq => refText_nat _ (K' + 1) W hq (by omega) (by rw [HLE.out.2]; exact HLL.out.2)
    clear hW4 hB34 hokA hokB hV5 hnr3 HQ2 HQ2b HQ3 HB2 HB3 HRD HNR hcell hfr
    refine wp_region_M 999 (fun w' => w'.cell? ⟨w3.heap.size, 0, none⟩ = some (.slice a2 L' c2) ∧ w'.cell? ⟨w3.heap.size, 1, none⟩ = some (.int .i64 (X - ((i : Int) + 1))) ∧ w'.cell? ⟨w3.heap.size + 1, 0, none⟩ = some (.slice a3 L1 c3) ∧ w'.cell? ⟨w3.heap.size + 1, 1, none⟩ = some (.int .i64 (X - ((i : Int) + 1)))) (by kernel_rfl) (HT4.out.cells) (fun hHeld => ?_)
    refine takeP (i := 0) (v := ?_) 63 rfl rfl (by kernel_rfl) (by kernel_rfl) (by kernel_rfl) (fun _ _ _ h => h) (by kernel_rfl) (Or.inl ⟨by rfl, ?_⟩) hHeld ?_
    rotate_left
    focus (intro w _; go_simp; try (with_reducible rfl))
    try simp only [Act.put, List.setIfInBounds_toArray, List.set_cons_zero, List.set_cons_succ]
    refine takeL (i := 1) (v := ?_) 64 rfl rfl (by kernel_rfl) (by kernel_rfl) (by kernel_rfl) (fun _ _ _ h => h) (by kernel_rfl) (by kernel_rfl) (Or.inl ⟨by rfl, ?_⟩) hHeld ?_
    rotate_left
    focus (intro w hSw; (try dsimp only at hSw); go_simp; try (with_reducible rfl))
    try simp only [Act.put, List.setIfInBounds_toArray, List.set_cons_zero, List.set_cons_succ]
    refine takeP (i := 3) (v := ?_) 66 rfl rfl (by kernel_rfl) (by kernel_rfl) (by kernel_rfl) (fun _ _ _ h => h) (by kernel_rfl) (Or.inl ⟨by rfl, ?_⟩) hHeld ?_
    rotate_left
    focus (intro w _; go_simp; try (with_reducible rfl))
    try simp only [Act.put, List.setIfInBounds_toArray, List.set_cons_zero, List.set_cons_succ]
    refine takeL (i := 4) (v := ?_) 67 rfl rfl (by kernel_rfl) (by kernel_rfl) (by kernel_rfl) (fun _ _ _ h => h) (by kernel_rfl) (by kernel_rfl) (Or.inl ⟨by rfl, ?_⟩) hHeld ?_
    rotate_left
    focus (intro w hSw; (try dsimp only at hSw); go_simp; try (with_reducible rfl))
    try simp only [Act.put, List.setIfInBounds_toArray, List.set_cons_zero, List.set_cons_succ]
    refine nextS (i := 2) (by kernel_rfl) rfl (fun K hK => ?_)
    go_simp
    go_at_call 39; refine (HRA.out _ (below_drewN (Below.refl _ _) 1)).mono ?_; clear HRA; rintro e9 w5 ⟨rfl, hb5⟩; have HB5 : Hid (Below W4.heap.size W4 w5) := (below_drewN (Below.refl W4.heap.size W4) 1).trans (hb5.mono (Nat.le_refl _)); have HT5 : Hid (TwoX w5 w3.heap.size a2 L' c2 a3 L1 c3 (X - ((i : Int) + 1))) := HT4.out.below HB5.out; clear hb5
    go_wp2_with fail
    refine hK.out _ _ (HT5.out.cells) (fun hHeld => ?_)
    clear hK K
    try simp only [Act.put, List.setIfInBounds_toArray, List.set_cons_zero, List.set_cons_succ]
    refine nextS (i := 5) (by kernel_rfl) rfl (fun K hK => ?_)
    go_simp
    go_at_call 39; refine (HRB.out _ HB5.out).mono ?_; clear HRB; rintro e9 w6 ⟨rfl, hb6⟩; have HB6 : Hid (Below W4.heap.size W4 w6) := HB5.out.trans (hb6.mono HB5.out.size); have HT6 : Hid (TwoX w6 w3.heap.size a2 L' c2 a3 L1 c3 (X - ((i : Int) + 1))) := HT4.out.below HB6.out; clear hb6
    go_wp2_with fail
    refine hK.out _ _ (HT6.out.cells) (fun hHeld => ?_)
    clear hK K
    try simp only [Act.put, List.setIfInBounds_toArray, List.set_cons_zero, List.set_cons_succ]
    refine nextS (i := 6) (by kernel_rfl) rfl (fun K hK => ?_)
    go_simp
    refine hK.out _ _ hHeld (fun hHeld => ?_)
    clear hK K
    try simp only [Act.put, List.setIfInBounds_toArray, List.set_cons_zero, List.set_cons_succ]
    refine nextS (i := 7) (by kernel_rfl) rfl (fun K hK => ?_)
    go_simp
    refine hK.out _ _ hHeld (fun hHeld => ?_)
    clear hK K
    try simp only [Act.put, List.setIfInBounds_toArray, List.set_cons_zero, List.set_cons_succ]
    clear hHeld
    refine endM (by kernel_rfl) ?_ _

    cases okA
    · cases okB
      · replace HDC : Hid (docF raw X (D.drop (i + 1)) K' (i + 1) = some (xF, nF)) := HDC.out
        have HDN : Hid (docF raw X (D.drop (i + 1)) K' (i + 1) = some (xF, nF)) := HDC.out
        have HQ6 : Hid (QAt w6 (.slice a2 L' c2) K') := HQ4.out.1.below HB6.out
        have HBW : Hid (Below w1.heap.size w1 w6) := HB4.out.trans (HB6.out.mono HB4.out.size)
        clear HUP HNA HN3 HDC HTA HTB HT4 HT5 HT6
        go_wp2_with fail
        go_roundw
        case rel => exact ⟨i + 1, K', a2, L', c2, by go_num, by omega, rfl, HQ6.out, HKS.out.1, fun _ => by rw [Nat.add_sub_cancel]; exact HKS.out.2, HDN.out, HBW.out⟩
        case measure => simp [intOf]; omega
      · rw [show (!false || (true && (decide (0 < nrO raw K' (X - ((i : Int) + 1))) || (decide (nrO raw K' (X - ((i : Int) + 1)) = 0) && decide (K' % 2 = 1))))) = true from rfl] at HUP
        generalize nrO raw K' (X - ((i : Int) + 1)) = C at *
        have HXN : Hid (K' + 1 = xF ∧ i + 1 = nF) := by
          have h9 := HDC.out
          rw [HUP.out] at h9
          have h8 := Option.some.inj h9
          exact ⟨congrArg Prod.fst h8, congrArg Prod.snd h8⟩
        have HB7 : Hid (Below W4.heap.size W4 (w6.alloc (.cells #[.slice a2 L' c2, .int .i64 (X - ((i : Int) + 1))] 55))) := HB6.out.alloc HB6.out.size _
        have HT7 : Hid (TwoX (w6.alloc (.cells #[.slice a2 L' c2, .int .i64 (X - ((i : Int) + 1))] 55)) w3.heap.size a2 L' c2 a3 L1 c3 (X - ((i : Int) + 1))) := HT4.out.below HB7.out
        have HX7 : Hid ((w6.alloc (.cells #[.slice a2 L' c2, .int .i64 (X - ((i : Int) + 1))] 55)).heap[w6.heap.size]? = some (.cells #[.slice a2 L' c2, .int .i64 (X - ((i : Int) + 1))] 55 (0, 0))) := heap_alloc_new w6 _
        obtain ⟨k0, k1, k2, k3⟩ := HT6.out.cells
        obtain ⟨j0, j1, j2, j3⟩ := HT7.out.cells
        have HBW : Hid (Below w1.heap.size w1 w6) := HB4.out.trans (HB6.out.mono HB4.out.size)
        clear HUP HDC HN3 HT5
        go_upto_region 20 with (first
          | (go_at_call 40; refine (HNA.out _ HB7.out).mono ?_; clear HNA; rintro e9 w8 ⟨rfl, hb8⟩; have hB68 : Below w6.heap.size w6 w8 := ((Below.refl _ _).alloc (Nat.le_refl _) _).trans (hb8.mono (by simp)); have hT8 : TwoX w8 w3.heap.size a2 L' c2 a3 L1 c3 (X - ((i : Int) + 1)) := HT7.out.below hb8; have hX8 : w8.heap[w6.heap.size]? = some (.cells #[.slice a2 L' c2, .int .i64 (X - ((i : Int) + 1))] 55 (0, 0)) := (hb8.block _ (Array.getElem?_eq_some_iff.1 HX7.out).1).trans HX7.out; obtain ⟨m0, m1, m2, m3⟩ := hT8.cells; obtain ⟨n0, n1, n2, n3⟩ := num_cells5 hX8; have HQ8 : Hid (QAt w8 (.slice a2 L' c2) K' ∧ QAt w8 (.slice a3 L1 c3) (K' + 1)) := ⟨(HQ4.out.1.below HB6.out).below hB68, (HQ4.out.2.below HB6.out).below hB68⟩; have HB68 : Hid (Below w6.heap.size w6 w8) := hB68; skip; have HB9 : Hid (Below w6.heap.size w6 ((w8.setCell ⟨w6.heap.size, 0, none⟩ (.slice a3 L1 c3)).setCell ⟨w6.heap.size, 1, none⟩ (.int .i64 (X - ((i : Int) + 1))))) := ((hB68.setCell (p := ⟨w6.heap.size, 0, none⟩) (Nat.le_refl _) _).setCell (p := ⟨w6.heap.size, 1, none⟩) (Nat.le_refl _) _); have HQ9 : Hid (QAt ((w8.setCell ⟨w6.heap.size, 0, none⟩ (.slice a3 L1 c3)).setCell ⟨w6.heap.size, 1, none⟩ (.int .i64 (X - ((i : Int) + 1)))) (.slice a3 L1 c3) (K' + 1)) := (HQ4.out.2.below HB6.out).below HB9.out; clear hb8 hB68 hT8 hX8)
          | (go_at_call 41; refine (HTB.out _ (HQ9.out)).mono ?_; clear HTA HTB; rintro e9 w10 ⟨T, rfl, hT1, hT2, hb10⟩; have HBF : Hid (Below w.heap.size w w10) := HB1.out.trans ((HBW.out.trans ((HB9.out.trans (hb10.mono HB9.out.size)).mono HBW.out.size)).mono HB1.out.size); have HTT : Hid (NumT T (K' + 1)) := hT1; obtain ⟨TS, hTS⟩ : ∃ TS : ByteArray, TS = ⟨T.toArray⟩ := ⟨_, rfl⟩; have hTz : TS.size ≤ 80 := (by rw [hTS, baz]; exact hT2); have HTS : Hid (TS = ⟨T.toArray⟩) := hTS; rw [← hTS]; clear hTS hT1 hT2 hb10))
        have HTR : Hid ((TS = ⟨(dgR raw).1.toArray⟩ ∨ (TS = ⟨#[49, 48]⟩ ∧ (dgR raw).1 = [49])) ∧ X - ((i : Int) + 1) + (TS.size : Int) = (dgR raw).2) := by
          have h9 := HE.out.is T (by rw [← HXN.out.1]; exact HTT.out)
          rw [← HXN.out.2] at h9
          rcases h9 with ⟨h8, h7⟩ | ⟨h8, h6, h7⟩
          · exact ⟨Or.inl (by rw [HTS.out, h8]), by rw [HTS.out, baz, ← h7]; rfl⟩
          · exact ⟨Or.inr ⟨by rw [HTS.out, h8, h6]; rfl, h6⟩, by rw [HTS.out, baz, ← h7]; rfl⟩
        clear HTT HTS HXN
        go_wp2_with fail
        go_loop [18] (fun tv => ∃ TS : ByteArray, tv = .string TS ∧ TS.size ≤ 80 ∧ Hid (TS = ⟨(dgR raw).1.toArray⟩ ∨ (TS = ⟨#[49, 48]⟩ ∧ (dgR raw).1 = [49]))) (fun tv => match tv with | .string s => s.size | _ => 0)
        case atStart => exact ⟨TS, rfl, hTz, HTR.out.1⟩
        case round =>
          have HTOP : Hid (X - ((i : Int) + 1) + (TS.size : Int) = (dgR raw).2) := HTR.out.2
          clear HTR hTz
          obtain ⟨TS2, rfl, hTz, HTR⟩ := hrel
          rcases HTR.out with hR | ⟨hR, hR2⟩
          · have HFE : Hid (TS2 = ⟨(dgR raw).1.toArray⟩) := hR
            rcases HE.out.last with hl | ⟨p, dd, hpd, hd48⟩
            · have hz1 : ¬ (1 : Int) < TS2.size := by rw [hR, baz]; omega
              clear hR
              go_wp2_with fail
              go_ret3
              exact ⟨ret_d HFE.out HTOP.out, HBF.out⟩
            · have hsz : TS2.size = p.length + 1 := by rw [hR, baz, hpd]; simp
              by_cases hp0 : p.length = 0
              · have hz1 : ¬ (1 : Int) < TS2.size := by omega
                clear hR hsz hpd hd48
                go_wp2_with fail
                go_ret3
                exact ⟨ret_d HFE.out HTOP.out, HBF.out⟩
              · have hz1 : (1 : Int) < TS2.size := by omega
                obtain ⟨q, hq⟩ : ∃ q, TS2.size = q + 1 := ⟨p.length, hsz⟩
                have hlt : q < TS2.size := by omega
                have hbyte : TS2[q].toNat ≠ 48 := by
                  have e1 : TS2[q] = dd := by
                    have e2 : TS2.data.toList[q]? = some dd := by
                      rw [hR, hpd, show q = p.length by omega]
                      simp
                    have e3 : TS2.data.toList[q]? = some TS2[q] := by
                      rw [List.getElem?_eq_getElem (by simpa using hlt)]
                      rfl
                    exact Option.some.inj (e3.symm.trans e2)
                  rw [e1]
                  exact hd48
                have hbb : ((TS2[q].toNat : Int) == 48) = false := by rw [beq_eq_false_iff_ne]; omega
                have hqi : (TS2.size : Int) - 1 = (q : Int) := by omega
                have hql : (q : Int) < TS2.size := by omega
                have hbl : TS2[q].toNat < 256 := TS2[q].toNat_lt
                clear hR hsz hp0 hbyte hpd hd48
                have HQ : Hid (TS2.size = q + 1) := hq
                clear hq
                go_wp2_with fail
                go_ret3
                exact ⟨ret_d HFE.out HTOP.out, HBF.out⟩
          · subst hR
            have HFE : Hid ((⟨#[49]⟩ : ByteArray) = ⟨(dgR raw).1.toArray⟩) := (congrArg (fun l : List UInt8 => (⟨l.toArray⟩ : ByteArray)) hR2).symm
            clear hR2
            go_wp2_with fail
            go_round
            case rel => exact ⟨_, rfl, by decide, Or.inl HFE.out⟩
            case measure => decide
    · cases okB
      · rw [show (!true || (false && (decide (0 < nrO raw K' (X - ((i : Int) + 1))) || (decide (nrO raw K' (X - ((i : Int) + 1)) = 0) && decide (K' % 2 = 1))))) = false from rfl] at HUP
        generalize nrO raw K' (X - ((i : Int) + 1)) = C at *
        have HXN : Hid (K' = xF ∧ i + 1 = nF) := by
          have h9 := HDC.out
          rw [HUP.out] at h9
          have h8 := Option.some.inj h9
          exact ⟨congrArg Prod.fst h8, congrArg Prod.snd h8⟩
        have HB7 : Hid (Below W4.heap.size W4 (w6.alloc (.cells #[.slice a2 L' c2, .int .i64 (X - ((i : Int) + 1))] 55))) := HB6.out.alloc HB6.out.size _
        have HT7 : Hid (TwoX (w6.alloc (.cells #[.slice a2 L' c2, .int .i64 (X - ((i : Int) + 1))] 55)) w3.heap.size a2 L' c2 a3 L1 c3 (X - ((i : Int) + 1))) := HT4.out.below HB7.out
        have HX7 : Hid ((w6.alloc (.cells #[.slice a2 L' c2, .int .i64 (X - ((i : Int) + 1))] 55)).heap[w6.heap.size]? = some (.cells #[.slice a2 L' c2, .int .i64 (X - ((i : Int) + 1))] 55 (0, 0))) := heap_alloc_new w6 _
        obtain ⟨k0, k1, k2, k3⟩ := HT6.out.cells
        obtain ⟨j0, j1, j2, j3⟩ := HT7.out.cells
        have HBW : Hid (Below w1.heap.size w1 w6) := HB4.out.trans (HB6.out.mono HB4.out.size)
        clear HUP HDC HN3 HT5
        go_upto_region 20 with (first
          | (go_at_call 40; refine (HNA.out _ HB7.out).mono ?_; clear HNA; rintro e9 w8 ⟨rfl, hb8⟩; have hB68 : Below w6.heap.size w6 w8 := ((Below.refl _ _).alloc (Nat.le_refl _) _).trans (hb8.mono (by simp)); have hT8 : TwoX w8 w3.heap.size a2 L' c2 a3 L1 c3 (X - ((i : Int) + 1)) := HT7.out.below hb8; have hX8 : w8.heap[w6.heap.size]? = some (.cells #[.slice a2 L' c2, .int .i64 (X - ((i : Int) + 1))] 55 (0, 0)) := (hb8.block _ (Array.getElem?_eq_some_iff.1 HX7.out).1).trans HX7.out; obtain ⟨m0, m1, m2, m3⟩ := hT8.cells; obtain ⟨n0, n1, n2, n3⟩ := num_cells5 hX8; have HQ8 : Hid (QAt w8 (.slice a2 L' c2) K' ∧ QAt w8 (.slice a3 L1 c3) (K' + 1)) := ⟨(HQ4.out.1.below HB6.out).below hB68, (HQ4.out.2.below HB6.out).below hB68⟩; have HB68 : Hid (Below w6.heap.size w6 w8) := hB68; skip; have HB9 : Hid (Below w6.heap.size w6 w8) := hB68; clear hb8 hB68 hT8 hX8)
          | (go_at_call 41; refine (HTA.out _ (HQ8.out.1)).mono ?_; clear HTA HTB; rintro e9 w10 ⟨T, rfl, hT1, hT2, hb10⟩; have HBF : Hid (Below w.heap.size w w10) := HB1.out.trans ((HBW.out.trans ((HB9.out.trans (hb10.mono HB9.out.size)).mono HBW.out.size)).mono HB1.out.size); have HTT : Hid (NumT T (K')) := hT1; obtain ⟨TS, hTS⟩ : ∃ TS : ByteArray, TS = ⟨T.toArray⟩ := ⟨_, rfl⟩; have hTz : TS.size ≤ 80 := (by rw [hTS, baz]; exact hT2); have HTS : Hid (TS = ⟨T.toArray⟩) := hTS; rw [← hTS]; clear hTS hT1 hT2 hb10))
        have HTR : Hid ((TS = ⟨(dgR raw).1.toArray⟩ ∨ (TS = ⟨#[49, 48]⟩ ∧ (dgR raw).1 = [49])) ∧ X - ((i : Int) + 1) + (TS.size : Int) = (dgR raw).2) := by
          have h9 := HE.out.is T (by rw [← HXN.out.1]; exact HTT.out)
          rw [← HXN.out.2] at h9
          rcases h9 with ⟨h8, h7⟩ | ⟨h8, h6, h7⟩
          · exact ⟨Or.inl (by rw [HTS.out, h8]), by rw [HTS.out, baz, ← h7]; rfl⟩
          · exact ⟨Or.inr ⟨by rw [HTS.out, h8, h6]; rfl, h6⟩, by rw [HTS.out, baz, ← h7]; rfl⟩
        clear HTT HTS HXN
        go_wp2_with fail
        go_loop [18] (fun tv => ∃ TS : ByteArray, tv = .string TS ∧ TS.size ≤ 80 ∧ Hid (TS = ⟨(dgR raw).1.toArray⟩ ∨ (TS = ⟨#[49, 48]⟩ ∧ (dgR raw).1 = [49]))) (fun tv => match tv with | .string s => s.size | _ => 0)
        case atStart => exact ⟨TS, rfl, hTz, HTR.out.1⟩
        case round =>
          have HTOP : Hid (X - ((i : Int) + 1) + (TS.size : Int) = (dgR raw).2) := HTR.out.2
          clear HTR hTz
          obtain ⟨TS2, rfl, hTz, HTR⟩ := hrel
          rcases HTR.out with hR | ⟨hR, hR2⟩
          · have HFE : Hid (TS2 = ⟨(dgR raw).1.toArray⟩) := hR
            rcases HE.out.last with hl | ⟨p, dd, hpd, hd48⟩
            · have hz1 : ¬ (1 : Int) < TS2.size := by rw [hR, baz]; omega
              clear hR
              go_wp2_with fail
              go_ret3
              exact ⟨ret_d HFE.out HTOP.out, HBF.out⟩
            · have hsz : TS2.size = p.length + 1 := by rw [hR, baz, hpd]; simp
              by_cases hp0 : p.length = 0
              · have hz1 : ¬ (1 : Int) < TS2.size := by omega
                clear hR hsz hpd hd48
                go_wp2_with fail
                go_ret3
                exact ⟨ret_d HFE.out HTOP.out, HBF.out⟩
              · have hz1 : (1 : Int) < TS2.size := by omega
                obtain ⟨q, hq⟩ : ∃ q, TS2.size = q + 1 := ⟨p.length, hsz⟩
                have hlt : q < TS2.size := by omega
                have hbyte : TS2[q].toNat ≠ 48 := by
                  have e1 : TS2[q] = dd := by
                    have e2 : TS2.data.toList[q]? = some dd := by
                      rw [hR, hpd, show q = p.length by omega]
                      simp
                    have e3 : TS2.data.toList[q]? = some TS2[q] := by
                      rw [List.getElem?_eq_getElem (by simpa using hlt)]
                      rfl
                    exact Option.some.inj (e3.symm.trans e2)
                  rw [e1]
                  exact hd48
                have hbb : ((TS2[q].toNat : Int) == 48) = false := by rw [beq_eq_false_iff_ne]; omega
                have hqi : (TS2.size : Int) - 1 = (q : Int) := by omega
                have hql : (q : Int) < TS2.size := by omega
                have hbl : TS2[q].toNat < 256 := TS2[q].toNat_lt
                clear hR hsz hp0 hbyte hpd hd48
                have HQ : Hid (TS2.size = q + 1) := hq
                clear hq
                go_wp2_with fail
                go_ret3
                exact ⟨ret_d HFE.out HTOP.out, HBF.out⟩
          · subst hR
            have HFE : Hid ((⟨#[49]⟩ : ByteArray) = ⟨(dgR raw).1.toArray⟩) := (congrArg (fun l : List UInt8 => (⟨l.toArray⟩ : ByteArray)) hR2).symm
            clear hR2
            go_wp2_with fail
            go_round
            case rel => exact ⟨_, rfl, by decide, Or.inl HFE.out⟩
            case measure => decide
      · rcases HN3.out with hC | hC | hC
        · rw [hC] at HUP HNA
          replace HUP : Hid (upO raw K' (X - ((i : Int) + 1)) = true) := HUP.out
          clear hC
          have HXN : Hid (K' + 1 = xF ∧ i + 1 = nF) := by
            have h9 := HDC.out
            rw [HUP.out] at h9
            have h8 := Option.some.inj h9
            exact ⟨congrArg Prod.fst h8, congrArg Prod.snd h8⟩
          have HB7 : Hid (Below W4.heap.size W4 (w6.alloc (.cells #[.slice a2 L' c2, .int .i64 (X - ((i : Int) + 1))] 55))) := HB6.out.alloc HB6.out.size _
          have HT7 : Hid (TwoX (w6.alloc (.cells #[.slice a2 L' c2, .int .i64 (X - ((i : Int) + 1))] 55)) w3.heap.size a2 L' c2 a3 L1 c3 (X - ((i : Int) + 1))) := HT4.out.below HB7.out
          have HX7 : Hid ((w6.alloc (.cells #[.slice a2 L' c2, .int .i64 (X - ((i : Int) + 1))] 55)).heap[w6.heap.size]? = some (.cells #[.slice a2 L' c2, .int .i64 (X - ((i : Int) + 1))] 55 (0, 0))) := heap_alloc_new w6 _
          obtain ⟨k0, k1, k2, k3⟩ := HT6.out.cells
          obtain ⟨j0, j1, j2, j3⟩ := HT7.out.cells
          have HBW : Hid (Below w1.heap.size w1 w6) := HB4.out.trans (HB6.out.mono HB4.out.size)
          clear HUP HDC HN3 HT5
          go_upto_region 20 with (first
            | (go_at_call 40; refine (HNA.out _ HB7.out).mono ?_; clear HNA; rintro e9 w8 ⟨rfl, hb8⟩; have hB68 : Below w6.heap.size w6 w8 := ((Below.refl _ _).alloc (Nat.le_refl _) _).trans (hb8.mono (by simp)); have hT8 : TwoX w8 w3.heap.size a2 L' c2 a3 L1 c3 (X - ((i : Int) + 1)) := HT7.out.below hb8; have hX8 : w8.heap[w6.heap.size]? = some (.cells #[.slice a2 L' c2, .int .i64 (X - ((i : Int) + 1))] 55 (0, 0)) := (hb8.block _ (Array.getElem?_eq_some_iff.1 HX7.out).1).trans HX7.out; obtain ⟨m0, m1, m2, m3⟩ := hT8.cells; obtain ⟨n0, n1, n2, n3⟩ := num_cells5 hX8; have HQ8 : Hid (QAt w8 (.slice a2 L' c2) K' ∧ QAt w8 (.slice a3 L1 c3) (K' + 1)) := ⟨(HQ4.out.1.below HB6.out).below hB68, (HQ4.out.2.below HB6.out).below hB68⟩; have HB68 : Hid (Below w6.heap.size w6 w8) := hB68; skip; have HB9 : Hid (Below w6.heap.size w6 ((w8.setCell ⟨w6.heap.size, 0, none⟩ (.slice a3 L1 c3)).setCell ⟨w6.heap.size, 1, none⟩ (.int .i64 (X - ((i : Int) + 1))))) := ((hB68.setCell (p := ⟨w6.heap.size, 0, none⟩) (Nat.le_refl _) _).setCell (p := ⟨w6.heap.size, 1, none⟩) (Nat.le_refl _) _); have HQ9 : Hid (QAt ((w8.setCell ⟨w6.heap.size, 0, none⟩ (.slice a3 L1 c3)).setCell ⟨w6.heap.size, 1, none⟩ (.int .i64 (X - ((i : Int) + 1)))) (.slice a3 L1 c3) (K' + 1)) := (HQ4.out.2.below HB6.out).below HB9.out; clear hb8 hB68 hT8 hX8)
            | (go_at_call 41; refine (HTB.out _ (HQ9.out)).mono ?_; clear HTA HTB; rintro e9 w10 ⟨T, rfl, hT1, hT2, hb10⟩; have HBF : Hid (Below w.heap.size w w10) := HB1.out.trans ((HBW.out.trans ((HB9.out.trans (hb10.mono HB9.out.size)).mono HBW.out.size)).mono HB1.out.size); have HTT : Hid (NumT T (K' + 1)) := hT1; obtain ⟨TS, hTS⟩ : ∃ TS : ByteArray, TS = ⟨T.toArray⟩ := ⟨_, rfl⟩; have hTz : TS.size ≤ 80 := (by rw [hTS, baz]; exact hT2); have HTS : Hid (TS = ⟨T.toArray⟩) := hTS; rw [← hTS]; clear hTS hT1 hT2 hb10))
          have HTR : Hid ((TS = ⟨(dgR raw).1.toArray⟩ ∨ (TS = ⟨#[49, 48]⟩ ∧ (dgR raw).1 = [49])) ∧ X - ((i : Int) + 1) + (TS.size : Int) = (dgR raw).2) := by
            have h9 := HE.out.is T (by rw [← HXN.out.1]; exact HTT.out)
            rw [← HXN.out.2] at h9
            rcases h9 with ⟨h8, h7⟩ | ⟨h8, h6, h7⟩
            · exact ⟨Or.inl (by rw [HTS.out, h8]), by rw [HTS.out, baz, ← h7]; rfl⟩
            · exact ⟨Or.inr ⟨by rw [HTS.out, h8, h6]; rfl, h6⟩, by rw [HTS.out, baz, ← h7]; rfl⟩
          clear HTT HTS HXN
          go_wp2_with fail
          go_loop [18] (fun tv => ∃ TS : ByteArray, tv = .string TS ∧ TS.size ≤ 80 ∧ Hid (TS = ⟨(dgR raw).1.toArray⟩ ∨ (TS = ⟨#[49, 48]⟩ ∧ (dgR raw).1 = [49]))) (fun tv => match tv with | .string s => s.size | _ => 0)
          case atStart => exact ⟨TS, rfl, hTz, HTR.out.1⟩
          case round =>
            have HTOP : Hid (X - ((i : Int) + 1) + (TS.size : Int) = (dgR raw).2) := HTR.out.2
            clear HTR hTz
            obtain ⟨TS2, rfl, hTz, HTR⟩ := hrel
            rcases HTR.out with hR | ⟨hR, hR2⟩
            · have HFE : Hid (TS2 = ⟨(dgR raw).1.toArray⟩) := hR
              rcases HE.out.last with hl | ⟨p, dd, hpd, hd48⟩
              · have hz1 : ¬ (1 : Int) < TS2.size := by rw [hR, baz]; omega
                clear hR
                go_wp2_with fail
                go_ret3
                exact ⟨ret_d HFE.out HTOP.out, HBF.out⟩
              · have hsz : TS2.size = p.length + 1 := by rw [hR, baz, hpd]; simp
                by_cases hp0 : p.length = 0
                · have hz1 : ¬ (1 : Int) < TS2.size := by omega
                  clear hR hsz hpd hd48
                  go_wp2_with fail
                  go_ret3
                  exact ⟨ret_d HFE.out HTOP.out, HBF.out⟩
                · have hz1 : (1 : Int) < TS2.size := by omega
                  obtain ⟨q, hq⟩ : ∃ q, TS2.size = q + 1 := ⟨p.length, hsz⟩
                  have hlt : q < TS2.size := by omega
                  have hbyte : TS2[q].toNat ≠ 48 := by
                    have e1 : TS2[q] = dd := by
                      have e2 : TS2.data.toList[q]? = some dd := by
                        rw [hR, hpd, show q = p.length by omega]
                        simp
                      have e3 : TS2.data.toList[q]? = some TS2[q] := by
                        rw [List.getElem?_eq_getElem (by simpa using hlt)]
                        rfl
                      exact Option.some.inj (e3.symm.trans e2)
                    rw [e1]
                    exact hd48
                  have hbb : ((TS2[q].toNat : Int) == 48) = false := by rw [beq_eq_false_iff_ne]; omega
                  have hqi : (TS2.size : Int) - 1 = (q : Int) := by omega
                  have hql : (q : Int) < TS2.size := by omega
                  have hbl : TS2[q].toNat < 256 := TS2[q].toNat_lt
                  clear hR hsz hp0 hbyte hpd hd48
                  have HQ : Hid (TS2.size = q + 1) := hq
                  clear hq
                  go_wp2_with fail
                  go_ret3
                  exact ⟨ret_d HFE.out HTOP.out, HBF.out⟩
            · subst hR
              have HFE : Hid ((⟨#[49]⟩ : ByteArray) = ⟨(dgR raw).1.toArray⟩) := (congrArg (fun l : List UInt8 => (⟨l.toArray⟩ : ByteArray)) hR2).symm
              clear hR2
              go_wp2_with fail
              go_round
              case rel => exact ⟨_, rfl, by decide, Or.inl HFE.out⟩
              case measure => decide
        · rw [hC] at HUP HNA
          have hgk := q_first HQ4.out.1 hK0
          obtain ⟨gb, go, rfl, hgl, hck⟩ := hgk
          obtain ⟨kk, hkk⟩ : ∃ kk : Nat, kk = K' % 10000 := ⟨_, rfl⟩
          rw [← hkk] at hck
          by_cases hod : K' % 2 = 1
          · rw [decide_eq_true hod] at HUP
            replace HUP : Hid (upO raw K' (X - ((i : Int) + 1)) = true) := HUP.out
            have hpar : (kk : Int) % 2 = 1 := by omega
            have HCK : Hid (∀ W : World, Below W4.heap.size W4 W → W.cell? ⟨gb, go, none⟩ = some (.int .i64 (kk : Nat))) := fun W hW => (hW.cell (p := ⟨gb, go, none⟩) hgl).trans hck
            clear hod hck hgl hkk
            clear hC
            have HXN : Hid (K' + 1 = xF ∧ i + 1 = nF) := by
              have h9 := HDC.out
              rw [HUP.out] at h9
              have h8 := Option.some.inj h9
              exact ⟨congrArg Prod.fst h8, congrArg Prod.snd h8⟩
            have HB7 : Hid (Below W4.heap.size W4 (w6.alloc (.cells #[.slice (some ⟨gb, go, none⟩) L' c2, .int .i64 (X - ((i : Int) + 1))] 55))) := HB6.out.alloc HB6.out.size _
            have HT7 : Hid (TwoX (w6.alloc (.cells #[.slice (some ⟨gb, go, none⟩) L' c2, .int .i64 (X - ((i : Int) + 1))] 55)) w3.heap.size (some ⟨gb, go, none⟩) L' c2 a3 L1 c3 (X - ((i : Int) + 1))) := HT4.out.below HB7.out
            have HX7 : Hid ((w6.alloc (.cells #[.slice (some ⟨gb, go, none⟩) L' c2, .int .i64 (X - ((i : Int) + 1))] 55)).heap[w6.heap.size]? = some (.cells #[.slice (some ⟨gb, go, none⟩) L' c2, .int .i64 (X - ((i : Int) + 1))] 55 (0, 0))) := heap_alloc_new w6 _
            obtain ⟨k0, k1, k2, k3⟩ := HT6.out.cells
            obtain ⟨j0, j1, j2, j3⟩ := HT7.out.cells
            have HBW : Hid (Below w1.heap.size w1 w6) := HB4.out.trans (HB6.out.mono HB4.out.size)
            clear HUP HDC HN3 HT5
            go_upto_region 20 with (first
              | (go_at_call 40; refine (HNA.out _ HB7.out).mono ?_; clear HNA; rintro e9 w8 ⟨rfl, hb8⟩; have hB68 : Below w6.heap.size w6 w8 := ((Below.refl _ _).alloc (Nat.le_refl _) _).trans (hb8.mono (by simp)); have hT8 : TwoX w8 w3.heap.size (some ⟨gb, go, none⟩) L' c2 a3 L1 c3 (X - ((i : Int) + 1)) := HT7.out.below hb8; have hX8 : w8.heap[w6.heap.size]? = some (.cells #[.slice (some ⟨gb, go, none⟩) L' c2, .int .i64 (X - ((i : Int) + 1))] 55 (0, 0)) := (hb8.block _ (Array.getElem?_eq_some_iff.1 HX7.out).1).trans HX7.out; obtain ⟨m0, m1, m2, m3⟩ := hT8.cells; obtain ⟨n0, n1, n2, n3⟩ := num_cells5 hX8; have HQ8 : Hid (QAt w8 (.slice (some ⟨gb, go, none⟩) L' c2) K' ∧ QAt w8 (.slice a3 L1 c3) (K' + 1)) := ⟨(HQ4.out.1.below HB6.out).below hB68, (HQ4.out.2.below HB6.out).below hB68⟩; have HB68 : Hid (Below w6.heap.size w6 w8) := hB68; have hck8 := HCK.out w8 (HB7.out.trans (hb8.mono HB7.out.size)); have HB9 : Hid (Below w6.heap.size w6 ((w8.setCell ⟨w6.heap.size, 0, none⟩ (.slice a3 L1 c3)).setCell ⟨w6.heap.size, 1, none⟩ (.int .i64 (X - ((i : Int) + 1))))) := ((hB68.setCell (p := ⟨w6.heap.size, 0, none⟩) (Nat.le_refl _) _).setCell (p := ⟨w6.heap.size, 1, none⟩) (Nat.le_refl _) _); have HQ9 : Hid (QAt ((w8.setCell ⟨w6.heap.size, 0, none⟩ (.slice a3 L1 c3)).setCell ⟨w6.heap.size, 1, none⟩ (.int .i64 (X - ((i : Int) + 1)))) (.slice a3 L1 c3) (K' + 1)) := (HQ4.out.2.below HB6.out).below HB9.out; clear hb8 hB68 hT8 hX8)
              | (go_at_call 41; refine (HTB.out _ (HQ9.out)).mono ?_; clear HTA HTB; rintro e9 w10 ⟨T, rfl, hT1, hT2, hb10⟩; have HBF : Hid (Below w.heap.size w w10) := HB1.out.trans ((HBW.out.trans ((HB9.out.trans (hb10.mono HB9.out.size)).mono HBW.out.size)).mono HB1.out.size); have HTT : Hid (NumT T (K' + 1)) := hT1; obtain ⟨TS, hTS⟩ : ∃ TS : ByteArray, TS = ⟨T.toArray⟩ := ⟨_, rfl⟩; have hTz : TS.size ≤ 80 := (by rw [hTS, baz]; exact hT2); have HTS : Hid (TS = ⟨T.toArray⟩) := hTS; rw [← hTS]; clear hTS hT1 hT2 hb10))
            have HTR : Hid ((TS = ⟨(dgR raw).1.toArray⟩ ∨ (TS = ⟨#[49, 48]⟩ ∧ (dgR raw).1 = [49])) ∧ X - ((i : Int) + 1) + (TS.size : Int) = (dgR raw).2) := by
              have h9 := HE.out.is T (by rw [← HXN.out.1]; exact HTT.out)
              rw [← HXN.out.2] at h9
              rcases h9 with ⟨h8, h7⟩ | ⟨h8, h6, h7⟩
              · exact ⟨Or.inl (by rw [HTS.out, h8]), by rw [HTS.out, baz, ← h7]; rfl⟩
              · exact ⟨Or.inr ⟨by rw [HTS.out, h8, h6]; rfl, h6⟩, by rw [HTS.out, baz, ← h7]; rfl⟩
            clear HTT HTS HXN
            go_wp2_with fail
            go_loop [18] (fun tv => ∃ TS : ByteArray, tv = .string TS ∧ TS.size ≤ 80 ∧ Hid (TS = ⟨(dgR raw).1.toArray⟩ ∨ (TS = ⟨#[49, 48]⟩ ∧ (dgR raw).1 = [49]))) (fun tv => match tv with | .string s => s.size | _ => 0)
            case atStart => exact ⟨TS, rfl, hTz, HTR.out.1⟩
            case round =>
              have HTOP : Hid (X - ((i : Int) + 1) + (TS.size : Int) = (dgR raw).2) := HTR.out.2
              clear HTR hTz
              obtain ⟨TS2, rfl, hTz, HTR⟩ := hrel
              rcases HTR.out with hR | ⟨hR, hR2⟩
              · have HFE : Hid (TS2 = ⟨(dgR raw).1.toArray⟩) := hR
                rcases HE.out.last with hl | ⟨p, dd, hpd, hd48⟩
                · have hz1 : ¬ (1 : Int) < TS2.size := by rw [hR, baz]; omega
                  clear hR
                  go_wp2_with fail
                  go_ret3
                  exact ⟨ret_d HFE.out HTOP.out, HBF.out⟩
                · have hsz : TS2.size = p.length + 1 := by rw [hR, baz, hpd]; simp
                  by_cases hp0 : p.length = 0
                  · have hz1 : ¬ (1 : Int) < TS2.size := by omega
                    clear hR hsz hpd hd48
                    go_wp2_with fail
                    go_ret3
                    exact ⟨ret_d HFE.out HTOP.out, HBF.out⟩
                  · have hz1 : (1 : Int) < TS2.size := by omega
                    obtain ⟨q, hq⟩ : ∃ q, TS2.size = q + 1 := ⟨p.length, hsz⟩
                    have hlt : q < TS2.size := by omega
                    have hbyte : TS2[q].toNat ≠ 48 := by
                      have e1 : TS2[q] = dd := by
                        have e2 : TS2.data.toList[q]? = some dd := by
                          rw [hR, hpd, show q = p.length by omega]
                          simp
                        have e3 : TS2.data.toList[q]? = some TS2[q] := by
                          rw [List.getElem?_eq_getElem (by simpa using hlt)]
                          rfl
                        exact Option.some.inj (e3.symm.trans e2)
                      rw [e1]
                      exact hd48
                    have hbb : ((TS2[q].toNat : Int) == 48) = false := by rw [beq_eq_false_iff_ne]; omega
                    have hqi : (TS2.size : Int) - 1 = (q : Int) := by omega
                    have hql : (q : Int) < TS2.size := by omega
                    have hbl : TS2[q].toNat < 256 := TS2[q].toNat_lt
                    clear hR hsz hp0 hbyte hpd hd48
                    have HQ : Hid (TS2.size = q + 1) := hq
                    clear hq
                    go_wp2_with fail
                    go_ret3
                    exact ⟨ret_d HFE.out HTOP.out, HBF.out⟩
              · subst hR
                have HFE : Hid ((⟨#[49]⟩ : ByteArray) = ⟨(dgR raw).1.toArray⟩) := (congrArg (fun l : List UInt8 => (⟨l.toArray⟩ : ByteArray)) hR2).symm
                clear hR2
                go_wp2_with fail
                go_round
                case rel => exact ⟨_, rfl, by decide, Or.inl HFE.out⟩
                case measure => decide
          · rw [decide_eq_false hod] at HUP
            replace HUP : Hid (upO raw K' (X - ((i : Int) + 1)) = false) := HUP.out
            have hpar : (kk : Int) % 2 = 0 := by omega
            have HCK : Hid (∀ W : World, Below W4.heap.size W4 W → W.cell? ⟨gb, go, none⟩ = some (.int .i64 (kk : Nat))) := fun W hW => (hW.cell (p := ⟨gb, go, none⟩) hgl).trans hck
            clear hod hck hgl hkk
            clear hC
            have HXN : Hid (K' = xF ∧ i + 1 = nF) := by
              have h9 := HDC.out
              rw [HUP.out] at h9
              have h8 := Option.some.inj h9
              exact ⟨congrArg Prod.fst h8, congrArg Prod.snd h8⟩
            have HB7 : Hid (Below W4.heap.size W4 (w6.alloc (.cells #[.slice (some ⟨gb, go, none⟩) L' c2, .int .i64 (X - ((i : Int) + 1))] 55))) := HB6.out.alloc HB6.out.size _
            have HT7 : Hid (TwoX (w6.alloc (.cells #[.slice (some ⟨gb, go, none⟩) L' c2, .int .i64 (X - ((i : Int) + 1))] 55)) w3.heap.size (some ⟨gb, go, none⟩) L' c2 a3 L1 c3 (X - ((i : Int) + 1))) := HT4.out.below HB7.out
            have HX7 : Hid ((w6.alloc (.cells #[.slice (some ⟨gb, go, none⟩) L' c2, .int .i64 (X - ((i : Int) + 1))] 55)).heap[w6.heap.size]? = some (.cells #[.slice (some ⟨gb, go, none⟩) L' c2, .int .i64 (X - ((i : Int) + 1))] 55 (0, 0))) := heap_alloc_new w6 _
            obtain ⟨k0, k1, k2, k3⟩ := HT6.out.cells
            obtain ⟨j0, j1, j2, j3⟩ := HT7.out.cells
            have HBW : Hid (Below w1.heap.size w1 w6) := HB4.out.trans (HB6.out.mono HB4.out.size)
            clear HUP HDC HN3 HT5
            go_upto_region 20 with (first
              | (go_at_call 40; refine (HNA.out _ HB7.out).mono ?_; clear HNA; rintro e9 w8 ⟨rfl, hb8⟩; have hB68 : Below w6.heap.size w6 w8 := ((Below.refl _ _).alloc (Nat.le_refl _) _).trans (hb8.mono (by simp)); have hT8 : TwoX w8 w3.heap.size (some ⟨gb, go, none⟩) L' c2 a3 L1 c3 (X - ((i : Int) + 1)) := HT7.out.below hb8; have hX8 : w8.heap[w6.heap.size]? = some (.cells #[.slice (some ⟨gb, go, none⟩) L' c2, .int .i64 (X - ((i : Int) + 1))] 55 (0, 0)) := (hb8.block _ (Array.getElem?_eq_some_iff.1 HX7.out).1).trans HX7.out; obtain ⟨m0, m1, m2, m3⟩ := hT8.cells; obtain ⟨n0, n1, n2, n3⟩ := num_cells5 hX8; have HQ8 : Hid (QAt w8 (.slice (some ⟨gb, go, none⟩) L' c2) K' ∧ QAt w8 (.slice a3 L1 c3) (K' + 1)) := ⟨(HQ4.out.1.below HB6.out).below hB68, (HQ4.out.2.below HB6.out).below hB68⟩; have HB68 : Hid (Below w6.heap.size w6 w8) := hB68; have hck8 := HCK.out w8 (HB7.out.trans (hb8.mono HB7.out.size)); have HB9 : Hid (Below w6.heap.size w6 w8) := hB68; clear hb8 hB68 hT8 hX8)
              | (go_at_call 41; refine (HTA.out _ (HQ8.out.1)).mono ?_; clear HTA HTB; rintro e9 w10 ⟨T, rfl, hT1, hT2, hb10⟩; have HBF : Hid (Below w.heap.size w w10) := HB1.out.trans ((HBW.out.trans ((HB9.out.trans (hb10.mono HB9.out.size)).mono HBW.out.size)).mono HB1.out.size); have HTT : Hid (NumT T (K')) := hT1; obtain ⟨TS, hTS⟩ : ∃ TS : ByteArray, TS = ⟨T.toArray⟩ := ⟨_, rfl⟩; have hTz : TS.size ≤ 80 := (by rw [hTS, baz]; exact hT2); have HTS : Hid (TS = ⟨T.toArray⟩) := hTS; rw [← hTS]; clear hTS hT1 hT2 hb10))
            have HTR : Hid ((TS = ⟨(dgR raw).1.toArray⟩ ∨ (TS = ⟨#[49, 48]⟩ ∧ (dgR raw).1 = [49])) ∧ X - ((i : Int) + 1) + (TS.size : Int) = (dgR raw).2) := by
              have h9 := HE.out.is T (by rw [← HXN.out.1]; exact HTT.out)
              rw [← HXN.out.2] at h9
              rcases h9 with ⟨h8, h7⟩ | ⟨h8, h6, h7⟩
              · exact ⟨Or.inl (by rw [HTS.out, h8]), by rw [HTS.out, baz, ← h7]; rfl⟩
              · exact ⟨Or.inr ⟨by rw [HTS.out, h8, h6]; rfl, h6⟩, by rw [HTS.out, baz, ← h7]; rfl⟩
            clear HTT HTS HXN
            go_wp2_with fail
            go_loop [18] (fun tv => ∃ TS : ByteArray, tv = .string TS ∧ TS.size ≤ 80 ∧ Hid (TS = ⟨(dgR raw).1.toArray⟩ ∨ (TS = ⟨#[49, 48]⟩ ∧ (dgR raw).1 = [49]))) (fun tv => match tv with | .string s => s.size | _ => 0)
            case atStart => exact ⟨TS, rfl, hTz, HTR.out.1⟩
            case round =>
              have HTOP : Hid (X - ((i : Int) + 1) + (TS.size : Int) = (dgR raw).2) := HTR.out.2
              clear HTR hTz
              obtain ⟨TS2, rfl, hTz, HTR⟩ := hrel
              rcases HTR.out with hR | ⟨hR, hR2⟩
              · have HFE : Hid (TS2 = ⟨(dgR raw).1.toArray⟩) := hR
                rcases HE.out.last with hl | ⟨p, dd, hpd, hd48⟩
                · have hz1 : ¬ (1 : Int) < TS2.size := by rw [hR, baz]; omega
                  clear hR
                  go_wp2_with fail
                  go_ret3
                  exact ⟨ret_d HFE.out HTOP.out, HBF.out⟩
                · have hsz : TS2.size = p.length + 1 := by rw [hR, baz, hpd]; simp
                  by_cases hp0 : p.length = 0
                  · have hz1 : ¬ (1 : Int) < TS2.size := by omega
                    clear hR hsz hpd hd48
                    go_wp2_with fail
                    go_ret3
                    exact ⟨ret_d HFE.out HTOP.out, HBF.out⟩
                  · have hz1 : (1 : Int) < TS2.size := by omega
                    obtain ⟨q, hq⟩ : ∃ q, TS2.size = q + 1 := ⟨p.length, hsz⟩
                    have hlt : q < TS2.size := by omega
                    have hbyte : TS2[q].toNat ≠ 48 := by
                      have e1 : TS2[q] = dd := by
                        have e2 : TS2.data.toList[q]? = some dd := by
                          rw [hR, hpd, show q = p.length by omega]
                          simp
                        have e3 : TS2.data.toList[q]? = some TS2[q] := by
                          rw [List.getElem?_eq_getElem (by simpa using hlt)]
                          rfl
                        exact Option.some.inj (e3.symm.trans e2)
                      rw [e1]
                      exact hd48
                    have hbb : ((TS2[q].toNat : Int) == 48) = false := by rw [beq_eq_false_iff_ne]; omega
                    have hqi : (TS2.size : Int) - 1 = (q : Int) := by omega
                    have hql : (q : Int) < TS2.size := by omega
                    have hbl : TS2[q].toNat < 256 := TS2[q].toNat_lt
                    clear hR hsz hp0 hbyte hpd hd48
                    have HQ : Hid (TS2.size = q + 1) := hq
                    clear hq
                    go_wp2_with fail
                    go_ret3
                    exact ⟨ret_d HFE.out HTOP.out, HBF.out⟩
              · subst hR
                have HFE : Hid ((⟨#[49]⟩ : ByteArray) = ⟨(dgR raw).1.toArray⟩) := (congrArg (fun l : List UInt8 => (⟨l.toArray⟩ : ByteArray)) hR2).symm
                clear hR2
                go_wp2_with fail
                go_round
                case rel => exact ⟨_, rfl, by decide, Or.inl HFE.out⟩
                case measure => decide
        · rw [hC] at HUP HNA
          replace HUP : Hid (upO raw K' (X - ((i : Int) + 1)) = false) := HUP.out
          clear hC
          have HXN : Hid (K' = xF ∧ i + 1 = nF) := by
            have h9 := HDC.out
            rw [HUP.out] at h9
            have h8 := Option.some.inj h9
            exact ⟨congrArg Prod.fst h8, congrArg Prod.snd h8⟩
          have HB7 : Hid (Below W4.heap.size W4 (w6.alloc (.cells #[.slice a2 L' c2, .int .i64 (X - ((i : Int) + 1))] 55))) := HB6.out.alloc HB6.out.size _
          have HT7 : Hid (TwoX (w6.alloc (.cells #[.slice a2 L' c2, .int .i64 (X - ((i : Int) + 1))] 55)) w3.heap.size a2 L' c2 a3 L1 c3 (X - ((i : Int) + 1))) := HT4.out.below HB7.out
          have HX7 : Hid ((w6.alloc (.cells #[.slice a2 L' c2, .int .i64 (X - ((i : Int) + 1))] 55)).heap[w6.heap.size]? = some (.cells #[.slice a2 L' c2, .int .i64 (X - ((i : Int) + 1))] 55 (0, 0))) := heap_alloc_new w6 _
          obtain ⟨k0, k1, k2, k3⟩ := HT6.out.cells
          obtain ⟨j0, j1, j2, j3⟩ := HT7.out.cells
          have HBW : Hid (Below w1.heap.size w1 w6) := HB4.out.trans (HB6.out.mono HB4.out.size)
          clear HUP HDC HN3 HT5
          go_upto_region 20 with (first
            | (go_at_call 40; refine (HNA.out _ HB7.out).mono ?_; clear HNA; rintro e9 w8 ⟨rfl, hb8⟩; have hB68 : Below w6.heap.size w6 w8 := ((Below.refl _ _).alloc (Nat.le_refl _) _).trans (hb8.mono (by simp)); have hT8 : TwoX w8 w3.heap.size a2 L' c2 a3 L1 c3 (X - ((i : Int) + 1)) := HT7.out.below hb8; have hX8 : w8.heap[w6.heap.size]? = some (.cells #[.slice a2 L' c2, .int .i64 (X - ((i : Int) + 1))] 55 (0, 0)) := (hb8.block _ (Array.getElem?_eq_some_iff.1 HX7.out).1).trans HX7.out; obtain ⟨m0, m1, m2, m3⟩ := hT8.cells; obtain ⟨n0, n1, n2, n3⟩ := num_cells5 hX8; have HQ8 : Hid (QAt w8 (.slice a2 L' c2) K' ∧ QAt w8 (.slice a3 L1 c3) (K' + 1)) := ⟨(HQ4.out.1.below HB6.out).below hB68, (HQ4.out.2.below HB6.out).below hB68⟩; have HB68 : Hid (Below w6.heap.size w6 w8) := hB68; skip; have HB9 : Hid (Below w6.heap.size w6 w8) := hB68; clear hb8 hB68 hT8 hX8)
            | (go_at_call 41; refine (HTA.out _ (HQ8.out.1)).mono ?_; clear HTA HTB; rintro e9 w10 ⟨T, rfl, hT1, hT2, hb10⟩; have HBF : Hid (Below w.heap.size w w10) := HB1.out.trans ((HBW.out.trans ((HB9.out.trans (hb10.mono HB9.out.size)).mono HBW.out.size)).mono HB1.out.size); have HTT : Hid (NumT T (K')) := hT1; obtain ⟨TS, hTS⟩ : ∃ TS : ByteArray, TS = ⟨T.toArray⟩ := ⟨_, rfl⟩; have hTz : TS.size ≤ 80 := (by rw [hTS, baz]; exact hT2); have HTS : Hid (TS = ⟨T.toArray⟩) := hTS; rw [← hTS]; clear hTS hT1 hT2 hb10))
          have HTR : Hid ((TS = ⟨(dgR raw).1.toArray⟩ ∨ (TS = ⟨#[49, 48]⟩ ∧ (dgR raw).1 = [49])) ∧ X - ((i : Int) + 1) + (TS.size : Int) = (dgR raw).2) := by
            have h9 := HE.out.is T (by rw [← HXN.out.1]; exact HTT.out)
            rw [← HXN.out.2] at h9
            rcases h9 with ⟨h8, h7⟩ | ⟨h8, h6, h7⟩
            · exact ⟨Or.inl (by rw [HTS.out, h8]), by rw [HTS.out, baz, ← h7]; rfl⟩
            · exact ⟨Or.inr ⟨by rw [HTS.out, h8, h6]; rfl, h6⟩, by rw [HTS.out, baz, ← h7]; rfl⟩
          clear HTT HTS HXN
          go_wp2_with fail
          go_loop [18] (fun tv => ∃ TS : ByteArray, tv = .string TS ∧ TS.size ≤ 80 ∧ Hid (TS = ⟨(dgR raw).1.toArray⟩ ∨ (TS = ⟨#[49, 48]⟩ ∧ (dgR raw).1 = [49]))) (fun tv => match tv with | .string s => s.size | _ => 0)
          case atStart => exact ⟨TS, rfl, hTz, HTR.out.1⟩
          case round =>
            have HTOP : Hid (X - ((i : Int) + 1) + (TS.size : Int) = (dgR raw).2) := HTR.out.2
            clear HTR hTz
            obtain ⟨TS2, rfl, hTz, HTR⟩ := hrel
            rcases HTR.out with hR | ⟨hR, hR2⟩
            · have HFE : Hid (TS2 = ⟨(dgR raw).1.toArray⟩) := hR
              rcases HE.out.last with hl | ⟨p, dd, hpd, hd48⟩
              · have hz1 : ¬ (1 : Int) < TS2.size := by rw [hR, baz]; omega
                clear hR
                go_wp2_with fail
                go_ret3
                exact ⟨ret_d HFE.out HTOP.out, HBF.out⟩
              · have hsz : TS2.size = p.length + 1 := by rw [hR, baz, hpd]; simp
                by_cases hp0 : p.length = 0
                · have hz1 : ¬ (1 : Int) < TS2.size := by omega
                  clear hR hsz hpd hd48
                  go_wp2_with fail
                  go_ret3
                  exact ⟨ret_d HFE.out HTOP.out, HBF.out⟩
                · have hz1 : (1 : Int) < TS2.size := by omega
                  obtain ⟨q, hq⟩ : ∃ q, TS2.size = q + 1 := ⟨p.length, hsz⟩
                  have hlt : q < TS2.size := by omega
                  have hbyte : TS2[q].toNat ≠ 48 := by
                    have e1 : TS2[q] = dd := by
                      have e2 : TS2.data.toList[q]? = some dd := by
                        rw [hR, hpd, show q = p.length by omega]
                        simp
                      have e3 : TS2.data.toList[q]? = some TS2[q] := by
                        rw [List.getElem?_eq_getElem (by simpa using hlt)]
                        rfl
                      exact Option.some.inj (e3.symm.trans e2)
                    rw [e1]
                    exact hd48
                  have hbb : ((TS2[q].toNat : Int) == 48) = false := by rw [beq_eq_false_iff_ne]; omega
                  have hqi : (TS2.size : Int) - 1 = (q : Int) := by omega
                  have hql : (q : Int) < TS2.size := by omega
                  have hbl : TS2[q].toNat < 256 := TS2[q].toNat_lt
                  clear hR hsz hp0 hbyte hpd hd48
                  have HQ : Hid (TS2.size = q + 1) := hq
                  clear hq
                  go_wp2_with fail
                  go_ret3
                  exact ⟨ret_d HFE.out HTOP.out, HBF.out⟩
            · subst hR
              have HFE : Hid ((⟨#[49]⟩ : ByteArray) = ⟨(dgR raw).1.toArray⟩) := (congrArg (fun l : List UInt8 => (⟨l.toArray⟩ : ByteArray)) hR2).symm
              clear hR2
              go_wp2_with fail
              go_round
              case rel => exact ⟨_, rfl, by decide, Or.inl HFE.out⟩
              case measure => decide
end Go.Proofs.YtinfnkhghmcelaaDoor
