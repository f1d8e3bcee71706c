/- Bits: rows of bits as bytes. -/
import Derived.Lib.ItoaNum
import Derived.Lib.TrailingZeros
namespace Go.Proofs.YtkmclgbiedbfpaaDoor

/-- the lowest n bits of x, the highest first -/
def wb : Nat → Nat → List Bool
  | 0, _ => []
  | n + 1, x => x.testBit n :: wb n x
theorem wb_length (n x : Nat) : (wb n x).length = n := by
  induction n with
  | zero => rfl
  | succ n ih => simp [wb, ih]
theorem wb_get (n x k : Nat) : (wb n x).getD k false = (decide (k < n) && x.testBit (n - 1 - k)) := by
  induction n generalizing k with
  | zero => simp [wb]
  | succ n ih =>
    cases k with
    | zero => simp [wb]
    | succ k =>
      have e : n + 1 - 1 - (k + 1) = n - 1 - k := by omega
      simp only [wb, List.getD_cons_succ, ih, e, Nat.add_lt_add_iff_right]
theorem wb_split (n m x : Nat) : wb (n + m) x = wb n (x >>> m) ++ wb m x := by
  induction n with
  | zero => simp [wb]
  | succ n ih =>
    rw [show n + 1 + m = (n + m) + 1 by omega, wb, wb, ih, Nat.testBit_shiftRight, List.cons_append, Nat.add_comm m n]
theorem wb_mod (n m x : Nat) (h : n ≤ m) : wb n (x % 2 ^ m) = wb n x := by
  induction n with
  | zero => rfl
  | succ n ih =>
    rw [wb, wb, ih (by omega), Nat.testBit_mod_two_pow]
    simp
    omega
theorem wb_inj {n x y : Nat} (hx : x < 2 ^ n) (hy : y < 2 ^ n) (h : wb n x = wb n y) : x = y := by
  apply Nat.eq_of_testBit_eq
  intro i
  rcases Nat.lt_or_ge i n with h1 | h1
  · have h2 := wb_get n x (n - 1 - i)
    have h3 := wb_get n y (n - 1 - i)
    rw [h] at h2
    rw [h2] at h3
    have e : n - 1 - (n - 1 - i) = i := by omega
    rw [e] at h3
    have : n - 1 - i < n := by omega
    simpa [this] using h3
  · rw [Nat.testBit_lt_two_pow (Nat.lt_of_lt_of_le hx (Nat.pow_le_pow_right (by decide) h1)), Nat.testBit_lt_two_pow (Nat.lt_of_lt_of_le hy (Nat.pow_le_pow_right (by decide) h1))]
/-- bits as a number, the highest first -/
def vb (bs : List Bool) : Nat := bs.foldl (fun a b => 2 * a + b.toNat) 0
theorem vb_fold (bs : List Bool) (a : Nat) : bs.foldl (fun a b => 2 * a + b.toNat) a = a * 2 ^ bs.length + vb bs := by
  induction bs generalizing a with
  | nil => simp [vb]
  | cons b t ih =>
    unfold vb
    rw [List.foldl_cons, List.foldl_cons, ih, ih (2 * 0 + b.toNat), List.length_cons, Nat.pow_succ]
    generalize 2 ^ t.length = P
    simp only [Nat.add_mul, Nat.mul_zero, Nat.zero_add]
    rw [Nat.mul_comm P 2, ← Nat.mul_assoc, Nat.mul_comm a 2]
    omega
theorem vb_append (a b : List Bool) : vb (a ++ b) = vb a * 2 ^ b.length + vb b := by
  unfold vb
  rw [List.foldl_append, vb_fold]
  rfl
theorem vb_cons (b : Bool) (t : List Bool) : vb (b :: t) = b.toNat * 2 ^ t.length + vb t := by
  have := vb_append [b] t
  simpa [vb] using this
theorem vb_lt (bs : List Bool) : vb bs < 2 ^ bs.length := by
  induction bs with
  | nil => simp [vb]
  | cons b t ih =>
    rw [vb_cons, List.length_cons, Nat.pow_succ]
    cases b <;> simp <;> omega
theorem vb_wb (n x : Nat) : vb (wb n x) = x % 2 ^ n := by
  induction n with
  | zero => simp [wb, vb, Nat.mod_one]
  | succ n ih =>
    rw [wb, vb_cons, ih, wb_length, Nat.mod_pow_succ, Nat.testBit_eq_decide_div_mod_eq]
    have : x / 2 ^ n % 2 = 0 ∨ x / 2 ^ n % 2 = 1 := by omega
    rcases this with h | h <;> simp [h] <;> omega
theorem wb_vb (bs : List Bool) : wb bs.length (vb bs) = bs := by
  induction bs with
  | nil => rfl
  | cons b t ih =>
    have hl := vb_lt t
    rw [List.length_cons, wb, vb_cons]
    congr 1
    · rw [Nat.testBit_eq_decide_div_mod_eq, Nat.add_comm, Nat.add_mul_div_right _ _ (Nat.pow_pos (by decide)), Nat.div_eq_of_lt hl]
      cases b <;> simp
    · rw [← wb_mod _ t.length _ (Nat.le_refl _), Nat.mul_add_mod_self_right, Nat.mod_eq_of_lt hl, ih]
def oct (b0 b1 b2 b3 b4 b5 b6 b7 : Bool) : Nat := 128 * b0.toNat + 64 * b1.toNat + 32 * b2.toNat + 16 * b3.toNat + 8 * b4.toNat + 4 * b5.toNat + 2 * b6.toNat + b7.toNat
theorem oct_lt (b0 b1 b2 b3 b4 b5 b6 b7 : Bool) : oct b0 b1 b2 b3 b4 b5 b6 b7 < 256 := by
  have h : ∀ b : Bool, b.toNat ≤ 1 := fun b => Bool.toNat_le b
  have := h b0; have := h b1; have := h b2; have := h b3; have := h b4; have := h b5; have := h b6; have := h b7
  unfold oct; omega
set_option maxRecDepth 100000 in
theorem oct_bit : ∀ (b0 b1 b2 b3 b4 b5 b6 b7 : Bool), wb 8 (oct b0 b1 b2 b3 b4 b5 b6 b7) = [b0, b1, b2, b3, b4, b5, b6, b7] := by decide
/-- byte j of a row of bits, filled up with 0 -/
def byteOf (bs : List Bool) (j : Nat) : Nat :=
  oct (bs.getD (8 * j) false) (bs.getD (8 * j + 1) false) (bs.getD (8 * j + 2) false) (bs.getD (8 * j + 3) false) (bs.getD (8 * j + 4) false) (bs.getD (8 * j + 5) false) (bs.getD (8 * j + 6) false) (bs.getD (8 * j + 7) false)
theorem byteOf_lt (bs : List Bool) (j : Nat) : byteOf bs j < 256 := oct_lt ..
theorem byteOf_bit (bs : List Bool) (j k : Nat) (hk : k < 8) : (byteOf bs j).testBit (7 - k) = bs.getD (8 * j + k) false := by
  have h := wb_get 8 (byteOf bs j) k
  have e : 8 - 1 - k = 7 - k := by omega
  rw [e] at h
  simp only [hk, decide_true, Bool.true_and] at h
  rw [← h]
  unfold byteOf
  rw [oct_bit]
  match k, hk with
  | 0, _ => rfl
  | 1, _ => rfl
  | 2, _ => rfl
  | 3, _ => rfl
  | 4, _ => rfl
  | 5, _ => rfl
  | 6, _ => rfl
  | 7, _ => rfl
theorem byte_ext {x y : Nat} (hx : x < 256) (hy : y < 256) (h : ∀ k, k < 8 → x.testBit (7 - k) = y.testBit (7 - k)) : x = y := by
  apply Nat.eq_of_testBit_eq
  intro i
  rcases Nat.lt_or_ge i 8 with h1 | h1
  · have := h (7 - i) (by omega)
    rwa [show 7 - (7 - i) = i by omega] at this
  · rw [Nat.testBit_lt_two_pow (Nat.lt_of_lt_of_le (show x < 2 ^ 8 from hx) (Nat.pow_le_pow_right (by decide) h1)), Nat.testBit_lt_two_pow (Nat.lt_of_lt_of_le (show y < 2 ^ 8 from hy) (Nat.pow_le_pow_right (by decide) h1))]
/-- so many bytes of a row of bits -/
def pkN (n : Nat) (bs : List Bool) : List UInt8 := (List.range n).map fun j => UInt8.ofNat (byteOf bs j)
def pk (bs : List Bool) : List UInt8 := pkN ((bs.length + 7) / 8) bs
theorem pkN_length (n : Nat) (bs : List Bool) : (pkN n bs).length = n := by simp [pkN]
theorem pk_length (bs : List Bool) : (pk bs).length = (bs.length + 7) / 8 := pkN_length _ _
theorem pkN_succ (n : Nat) (bs : List Bool) : pkN (n + 1) bs = pkN n bs ++ [UInt8.ofNat (byteOf bs n)] := by simp [pkN, List.range_succ]
theorem byteOf_congr {a b : List Bool} {j : Nat} (h : ∀ k, k < 8 → a.getD (8 * j + k) false = b.getD (8 * j + k) false) : byteOf a j = byteOf b j := by
  unfold byteOf
  rw [show a.getD (8 * j) false = b.getD (8 * j) false from h 0 (by decide), h 1 (by decide), h 2 (by decide), h 3 (by decide), h 4 (by decide), h 5 (by decide), h 6 (by decide), h 7 (by decide)]
theorem pkN_congr {n : Nat} {a b : List Bool} (h : ∀ j, j < n → byteOf a j = byteOf b j) : pkN n a = pkN n b := by
  unfold pkN
  apply List.map_congr_left
  intro j hj
  rw [h j (by simpa using hj)]
theorem getD_app {a b : List Bool} (k : Nat) : (a ++ b).getD k false = if k < a.length then a.getD k false else b.getD (k - a.length) false := by
  simp only [List.getD_eq_getElem?_getD, List.getElem?_append]
  split <;> rfl
theorem getD_end {a : List Bool} {k : Nat} (h : a.length ≤ k) : a.getD k false = false := by simp [List.getD_eq_getElem?_getD, List.getElem?_eq_none h]
theorem pkN_app (n : Nat) (a b : List Bool) (h : 8 * n ≤ a.length) : pkN n (a ++ b) = pkN n a := pkN_congr fun j hj => byteOf_congr fun k hk => by
  rw [getD_app, if_pos (by omega)]
/-- what put does with the last byte -/
theorem put_byte (cs : List Bool) (n y r : Nat) (hr : cs.length % 8 = r) (hn : n ≤ 8 - r) :
    byteOf (cs ++ wb n y) (cs.length / 8) = byteOf cs (cs.length / 8) ||| (y % 2 ^ n) <<< (8 - r - n) := by
  have hlt : (y % 2 ^ n) <<< (8 - r - n) < 256 := by
    rw [Nat.shiftLeft_eq]
    have h1 : y % 2 ^ n < 2 ^ n := Nat.mod_lt _ (Nat.pow_pos (by decide))
    have h2 : (y % 2 ^ n) * 2 ^ (8 - r - n) < 2 ^ n * 2 ^ (8 - r - n) := Nat.mul_lt_mul_of_pos_right h1 (Nat.pow_pos (by decide))
    rw [← Nat.pow_add] at h2
    have h3 : 2 ^ (n + (8 - r - n)) ≤ 2 ^ 8 := Nat.pow_le_pow_right (by decide) (by omega)
    have h4 : (2 : Nat) ^ 8 = 256 := rfl
    omega
  refine byte_ext (byteOf_lt _ _) (Nat.or_lt_two_pow (n := 8) (byteOf_lt _ _) hlt) fun k hk => ?_
  rw [byteOf_bit _ _ _ hk, Nat.testBit_or, byteOf_bit _ _ _ hk, getD_app, Nat.testBit_shiftLeft, Nat.testBit_mod_two_pow]
  have e : 8 * (cs.length / 8) + k - cs.length = k - r := by omega
  by_cases h1 : 8 * (cs.length / 8) + k < cs.length
  · rw [if_pos h1]
    have : ¬ (7 - k - (8 - r - n) < n ∧ 7 - k ≥ 8 - r - n) := by omega
    by_cases h2 : 7 - k ≥ 8 - r - n
    · have h3 : ¬ (7 - k - (8 - r - n) < n) := by omega
      simp [h3]
    · simp [h2]
  · rw [if_neg h1, getD_end (a := cs) (by omega), Bool.false_or, wb_get, e]
    by_cases h2 : k - r < n
    · have h3 : 7 - k ≥ 8 - r - n := by omega
      have h4 : 7 - k - (8 - r - n) < n := by omega
      have h5 : n - 1 - (k - r) = 7 - k - (8 - r - n) := by omega
      simp [h2, h3, h4, h5]
    · have h3 : ¬ (7 - k ≥ 8 - r - n) := by omega
      simp [h2, h3]
theorem put_pk (cs : List Bool) (n y : Nat) (h0 : 0 < n) (hn : n ≤ 8 - cs.length % 8) :
    pk (cs ++ wb n y) = pkN (cs.length / 8) cs ++ [UInt8.ofNat (byteOf cs (cs.length / 8) ||| (y % 2 ^ n) <<< (8 - cs.length % 8 - n))] := by
  unfold pk
  have e : ((cs ++ wb n y).length + 7) / 8 = cs.length / 8 + 1 := by
    rw [List.length_append, wb_length]; omega
  rw [e, pkN_succ, pkN_app _ _ _ (by omega), put_byte cs n y _ rfl hn]
theorem byteOf_end (cs : List Bool) (h : cs.length % 8 = 0) : byteOf cs (cs.length / 8) = 0 := by
  refine byte_ext (byteOf_lt _ _) (by decide) fun k hk => ?_
  rw [byteOf_bit _ _ _ hk, getD_end (by omega)]
  simp
theorem pk_whole (cs : List Bool) (h : cs.length % 8 = 0) : pk cs = pkN (cs.length / 8) cs := by
  unfold pk
  congr 1
  omega
theorem pk_part (cs : List Bool) (h : cs.length % 8 ≠ 0) : pk cs = pkN (cs.length / 8) cs ++ [UInt8.ofNat (byteOf cs (cs.length / 8))] := by
  unfold pk
  rw [show (cs.length + 7) / 8 = cs.length / 8 + 1 by omega, pkN_succ]
theorem pk_app (a b : List Bool) (h : a.length % 8 = 0) : pk (a ++ b) = pk a ++ pk b := by
  apply List.ext_getElem
  · simp only [List.length_append, pk_length]
    omega
  · intro i h1 h2
    rw [List.getElem_append]
    split
    · rename_i h3
      rw [pk_length] at h3
      simp only [pk, pkN, List.getElem_map, List.getElem_range]
      congr 1
      exact byteOf_congr fun k hk => by rw [getD_app, if_pos (by omega)]
    · rename_i h3
      rw [pk_length] at h3
      simp only [pk, pkN, List.getElem_map, List.getElem_range, List.length_map, List.length_range]
      congr 1
      unfold byteOf
      have e : ∀ k, 8 * i + k - a.length = 8 * (i - (a.length + 7) / 8) + k := by omega
      have g : ∀ k, (a ++ b).getD (8 * i + k) false = b.getD (8 * (i - (a.length + 7) / 8) + k) false := fun k => by
        rw [getD_app, if_neg (by omega), e]
      rw [show (a ++ b).getD (8 * i) false = _ from g 0, g 1, g 2, g 3, g 4, g 5, g 6, g 7]
      rfl
/-- the bits of bytes -/
def ub (l : List UInt8) : List Bool := l.flatMap fun b => wb 8 b.toNat
theorem ub_length (l : List UInt8) : (ub l).length = 8 * l.length := by
  induction l with
  | nil => rfl
  | cons b t ih => simp only [ub, List.flatMap_cons, List.length_append, wb_length] at ih ⊢; rw [ih, List.length_cons]; omega
theorem ub_cons (b : UInt8) (t : List UInt8) : ub (b :: t) = wb 8 b.toNat ++ ub t := rfl
theorem ub_drop8 (l : List UInt8) (j : Nat) : (ub l).drop (8 * j) = ub (l.drop j) := by
  induction j generalizing l with
  | zero => simp
  | succ j ih =>
    cases l with
    | nil => simp [ub]
    | cons b t => rw [ub_cons, List.drop_succ_cons, ← ih, List.drop_append, wb_length, List.drop_eq_nil_of_le (by rw [wb_length]; omega), List.nil_append]; congr 1
theorem wb_drop (n x k : Nat) (h : k ≤ n) : (wb n x).drop k = wb (n - k) x := by
  have e : n = k + (n - k) := by omega
  conv => lhs; rw [e, wb_split]
  rw [List.drop_left' (wb_length _ _)]
theorem wb_take (n x k : Nat) (h : k ≤ n) : (wb n x).take k = wb k (x >>> (n - k)) := by
  have e : n = k + (n - k) := by omega
  conv => lhs; rw [e, wb_split]
  rw [List.take_left' (wb_length _ _)]
/-- what take does with one byte -/
theorem take_byte (l : List UInt8) (p n : Nat) (hn : n ≤ 8 - p % 8) (h : p / 8 < l.length) : ((ub l).drop p).take n = wb n (l[p / 8].toNat >>> (8 - p % 8 - n)) := by
  have e : p = 8 * (p / 8) + p % 8 := by omega
  have h1 : (ub l).drop p = (wb 8 l[p / 8].toNat ++ ub (l.drop (p / 8 + 1))).drop (p % 8) := by
    conv => lhs; rw [e, ← List.drop_drop, ub_drop8, ← List.getElem_cons_drop h, ub_cons]
  rw [h1, List.drop_append_of_le_length (by rw [wb_length]; omega), List.take_append_of_le_length (by rw [List.length_drop, wb_length]; omega), wb_drop _ _ _ (by omega), wb_take _ _ _ hn]
/-- bytes that were packed of bits begin with them -/
theorem ub_pk (bs : List Bool) : ∃ z, ub (pk bs) = bs ++ List.replicate z false := by
  refine ⟨8 * ((bs.length + 7) / 8) - bs.length, ?_⟩
  have key : ∀ n, ub (pkN n bs) = (List.range (8 * n)).map fun i => bs.getD i false := by
    intro n
    induction n with
    | zero => simp [pkN, ub]
    | succ n ih =>
      have e : ub (pkN n bs ++ [UInt8.ofNat (byteOf bs n)]) = ub (pkN n bs) ++ wb 8 (byteOf bs n) := by
        simp only [ub, List.flatMap_append, List.flatMap_cons, List.flatMap_nil, List.append_nil]
        congr 2
        rw [UInt8.toNat_ofNat']
        exact Nat.mod_eq_of_lt (byteOf_lt _ _)
      rw [pkN_succ, e, ih, show 8 * (n + 1) = 8 * n + 8 by omega]
      unfold byteOf
      rw [oct_bit]
      simp [List.range_succ]
  unfold pk
  rw [key]
  apply List.ext_getElem?
  intro i
  rw [List.getElem?_map, List.getElem?_append]
  by_cases h1 : i < bs.length
  · rw [List.getElem?_range (by omega), if_pos h1]
    simp [h1]
  · rw [if_neg h1]
    by_cases h2 : i < 8 * ((bs.length + 7) / 8)
    · rw [List.getElem?_range h2, List.getElem?_replicate, if_pos (by omega)]
      have := getD_end (a := bs) (k := i) (by omega)
      simpa using this
    · rw [List.getElem?_eq_none (by simp; omega), List.getElem?_replicate, if_neg (by omega)]
      rfl


end Go.Proofs.YtkmclgbiedbfpaaDoor
