/- Texts that belong together. -/
import Derived.Test.YtinfnkhghmcelaaDoorMPq
import Derived.Test.YtinfnkhghmcelaaDoorMPp
/- Numbers as rows of decimal digits, the lowest first (pure); append of a number. -/
namespace Go.Proofs.YtinfnkhghmcelaaDoor
open Go.RowKit Go.Maps

def valL : List Nat → Nat
  | [] => 0
  | d :: t => d + 10 * valL t
theorem valL_append (a b : List Nat) : valL (a ++ b) = valL a + 10 ^ a.length * valL b := by
  induction a with
  | nil => simp [valL]
  | cons d t ih =>
    rw [List.cons_append, valL, valL, ih, List.length_cons, Nat.pow_succ, Nat.mul_add, Nat.mul_comm (10 ^ t.length) 10, Nat.mul_assoc, Nat.add_assoc]
theorem valL_snoc (a : List Nat) (d : Nat) : valL (a ++ [d]) = valL a + 10 ^ a.length * d := by
  rw [valL_append]
  simp [valL]
theorem valL_take {ds : List Nat} {k : Nat} (h : k < ds.length) : valL (ds.take (k + 1)) = valL (ds.take k) + 10 ^ k * ds[k] := by
  rw [List.take_succ_eq_append_getElem h, valL_snoc, List.length_take, Nat.min_eq_left (by omega)]
/-- The text of such a row. -/
def txtL (ds : List Nat) : List UInt8 := ds.reverse.map fun d => UInt8.ofNat (48 + d)
theorem txtL_cons (d : Nat) (t : List Nat) : txtL (d :: t) = txtL t ++ [UInt8.ofNat (48 + d)] := by simp [txtL]
theorem byte_dig {d : Nat} (h : d < 10) : (UInt8.ofNat (48 + d)).toNat = 48 + d := by rw [UInt8.toNat_ofNat']; omega
theorem txtL_dig {ds : List Nat} (h : ∀ d ∈ ds, d < 10) : ∀ b ∈ txtL ds, isD b := fun b hb => by
  unfold txtL at hb
  obtain ⟨d, hd, rfl⟩ := List.mem_map.1 hb
  have h1 := h d (List.mem_reverse.1 hd)
  unfold isD
  rw [byte_dig h1]
  omega
theorem txtL_val : ∀ {ds : List Nat}, (∀ d ∈ ds, d < 10) → valT (txtL ds) = valL ds
  | [], _ => rfl
  | d :: t, h => by
    have h1 := h d (by simp)
    have ih := txtL_val (ds := t) (fun x hx => h x (by simp [hx]))
    rw [txtL_cons, valL, ← ih]
    unfold valT
    rw [List.foldl_append]
    simp only [List.foldl_cons, List.foldl_nil]
    rw [byte_dig h1]
    omega
theorem txtL_length (ds : List Nat) : (txtL ds).length = ds.length := by simp [txtL]

/-- append of one number. -/
theorem wpList_append_int (w : World) {ops : Array Oper} {rest : List Oper} {o : Oper} {a : Act} {Q : Exit → Act → World → Prop} (hgd : o.guard = none) (s x : Operand)
    (ho : o.op = .call { callee := .builtin .append, args := #[s, x], argTypes := #[52, 52] }) (base : Nat) (ao : Option Addr) (n co : Nat) (es : List Nat) (hs : a.eval s = .slice ao n co) (hrow : w.ownsRow base 3 1 (.slice ao n co) n (i64s es))
    (g : Nat) (z : Int) (y : Nat) (hzy : z = (y : Int)) (hx : a.eval x = .slice (some ⟨g, 0, none⟩) 1 1) (hg : w.heap[g]? = some (.cells #[.int .i64 z] 3 (0, 0))) (hl : n ≤ 100000) (hbase : base ≤ w.heap.size)
    (h : ∀ a' c' w', w'.ownsRow base 3 1 (.slice a' (n + 1) c') (n + 1) (i64s (es ++ [y])) → w.grownBy w' (Value.slice ao n co).ownBlock → wpList Tryd.prog ops Q rest (a.put o.dst (.slice a' (n + 1) c')) w') : wpList Tryd.prog ops Q (o :: rest) a w := by
  subst hzy
  obtain ⟨i0, hi0, hz0, hz1, hz2⟩ := info_parts infoI64
  refine wpList_append_own_at w hgd s x 52 ho base 3 i0 _ 1 8 Tryd.underlying52 hi0 hz0 hz1 hz2 rfl (by decide) (.slice ao n co) n (i64s es) hs hrow ⟨g, 0, none⟩ 1 1 [.int .i64 (y : Nat)] hx rfl (World.news_of_block (cs := #[.int .i64 (y : Nat)]) (t := 3) (fr := (0, 0)) hg) (by simp [Value.oneCell']) (by unfold maxLen; omega) (by omega) hbase ?_
  intro v1 w1 hr1 hg1 hnil1 hloc1
  obtain ⟨a1, c1, rfl⟩ := slice_of_row hr1
  refine h a1 c1 w1 ?_ hg1
  rw [i64s_append]
  exact hr1
/-- A row of numbers of one's own: where it lies, and what its cells hold. -/
theorem row_at {w : World} {base n c : Nat} {a : Option Addr} {es : List Nat} (h : w.ownsRow base 3 1 (.slice a n c) n (i64s es)) (hn : n = es.length) {k : Nat} (hk : k < n) : ∃ g, a = some ⟨g, 0, none⟩ ∧ base ≤ g ∧ w.cell? ⟨g, k, none⟩ = some (.int .i64 (es.getD k 0 : Nat)) ∧ w.frozen? ⟨g, k, none⟩ = false := by
  rcases h.2 with ⟨e, _⟩ | ⟨g, cap, cur, e, hlo, hg, _⟩
  · cases e
    omega
  · injection e with e1 e2 e3
    subst e1
    refine ⟨g, rfl, hlo, ?_, (row_cell h (by omega)).2⟩
    have hc := h.cells (g := g) rfl k (.int .i64 (es.getD k 0 : Nat)) (by
      unfold i64s
      rw [List.getElem?_map, List.getElem?_eq_getElem (by omega), List.getD_eq_getElem?_getD, List.getElem?_eq_getElem (by omega)]
      rfl)
    rw [Addr.add_lit, Nat.zero_add] at hc
    exact hc
theorem i64s_set (es : List Nat) (k y : Nat) : (i64s es).set k (.int .i64 (y : Nat)) = i64s (es.set k y) := by simp [i64s, List.map_set]
end Go.Proofs.YtinfnkhghmcelaaDoor

/- The middle between two floats, a little more and a little less (pure). -/
namespace Go.Proofs.YtinfnkhghmcelaaDoor
open Go

theorem ar1 (u x : Nat) : u * 10 ≤ 10 * u + x := by omega
theorem ar2 {u x : Nat} (h : 0 < x) (he : u * 10 = 10 * u + x) : False := by omega
theorem ar3 {a b c u v x : Nat} (hs : a + b = u) (g2 : a + 2 * v ≤ c) (h2 : 1 * x ≤ v) (hx : 0 < x) : 10 * u + x < (b + c) * 10 := by omega
theorem ar4 {z a b u v x : Nat} (hs : a + b = u) (hz : z ≤ a) (g1 : b = a + v) (h2 : 1 * x ≤ v) (hx : 0 < x) : (z + a) * 10 < 10 * u - x := by omega
theorem ar5 {u x : Nat} (h : 1 * x ≤ u) (hx : 0 < x) : 10 * u - x < u * 10 := by omega
theorem pow_split (e : Nat) : 2 ^ (e + 1075) = 2 ^ e * U75 := by
  obtain ⟨a, h, h2⟩ := U75_eq
  rw [h2, Nat.pow_add, h]
/-- The float of m times 2 to the e + 1. -/
def rawM (m e : Nat) : Nat := m + (e + 1075) * 4503599627370496
section
variable {m e A : Nat}
theorem magM (h1 : 4503599627370496 ≤ m) (h2 : m ≤ 9007199254740992) : magF (rawM m e) = m * (2 ^ e * U75) := by
  unfold rawM
  rw [magF_at m (e + 1075) (Or.inr ⟨h1, h2⟩), pow_split]
theorem raw_one : rawM m e + 1 = rawM (m + 1) e := by unfold rawM; omega
theorem magM2 (h1 : 4503599627370496 ≤ m) (h2 : m < 9007199254740992) : (m + 2) * (2 ^ e * U75) ≤ magF (rawM m e + 2) := by
  rcases Nat.lt_or_ge (m + 1) 9007199254740992 with h | h
  · have h3 := magM (m := m + 2) (e := e) (by omega) (by omega)
    rw [← h3]
    unfold rawM
    rw [show m + 2 + (e + 1075) * 4503599627370496 = m + (e + 1075) * 4503599627370496 + 2 by omega]
    exact Nat.le_refl _
  · have e1 : m = 9007199254740991 := by omega
    subst e1
    have h3 := magF_at 4503599627370497 (e + 1076) (Or.inr ⟨by decide, by decide⟩)
    have h4 : rawM 9007199254740991 e + 2 = 4503599627370497 + (e + 1076) * 4503599627370496 := by unfold rawM; omega
    rw [h4, h3, show e + 1076 = e + 1075 + 1 by omega, Nat.pow_succ, pow_split]
    generalize 2 ^ e * U75 = u
    omega
theorem rawM_top (h2 : m ≤ 9007199254740992) (he : e ≤ 100) : rawM m e + 2 ≤ 9218868437227405312 := by unfold rawM; omega
theorem rawM_pos (h1 : 4503599627370496 ≤ m) : 0 < rawM m e := by unfold rawM; omega
theorem rawM_odd : rawM m e % 2 = m % 2 := by unfold rawM; omega
variable (h1 : 4503599627370496 ≤ m) (h2 : m < 9007199254740992) (he : e ≤ 100) (hA : A = (2 * m + 1) * 2 ^ e)
include h1 h2 he hA
omit he in
theorem mid_sum : magF (rawM m e) + magF (rawM m e + 1) = A * U75 := by
  rw [raw_one, magM h1 (by omega), magM (m := m + 1) (by omega) (by omega), hA, Nat.mul_assoc]
  generalize 2 ^ e * U75 = u
  rw [← Nat.add_mul, show m + (m + 1) = 2 * m + 1 by omega]
/-- The middle is read as the even one. -/
theorem near_mid : NearF A 1 (if m % 2 = 1 then rawM m e + 1 else rawM m e) := by
  have hs := mid_sum h1 h2 hA
  have ht := rawM_top (m := m) (e := e) (by omega) he
  have hp := rawM_pos (m := m) (e := e) h1
  have ho := rawM_odd (m := m) (e := e)
  have m0 : magF (rawM m e - 1) ≤ magF (rawM m e) := magF_le (by omega)
  have m1 : magF (rawM m e) ≤ magF (rawM m e + 1) := magF_le (by omega)
  have m2 : magF (rawM m e + 1) ≤ magF (rawM m e + 1 + 1) := magF_le (by omega)
  generalize rawM m e = r at *
  obtain ⟨u, hu⟩ : ∃ u, A * U75 = u := ⟨_, rfl⟩
  rw [hu] at hs
  clear hA
  split
  · rename_i hm
    refine ⟨by omega, fun _ => ?_, fun _ _ => by omega, fun _ => ?_, fun _ _ => by omega⟩
    · rw [Nat.mul_one, Nat.add_sub_cancel, hu]
      omega
    · rw [Nat.mul_one, hu]
      omega
  · rename_i hm
    refine ⟨by omega, fun _ => ?_, fun _ _ => by omega, fun _ => ?_, fun _ _ => by omega⟩
    · rw [Nat.mul_one, hu]
      omega
    · rw [Nat.mul_one, hu]
      omega
/-- A little more: the greater one. -/
theorem near_more : NearF (A * 10 + 1) 10 (rawM m e + 1) := by
  have hs := mid_sum h1 h2 hA
  have ht := rawM_top (m := m) (e := e) (by omega) he
  have g1 := magM (m := m + 1) (e := e) (by omega) (by omega)
  rw [← raw_one] at g1
  have g0 := magM (m := m) (e := e) h1 (by omega)
  have g2 := magM2 (m := m) (e := e) h1 h2
  have hu := U75_pos
  have hu2 : 1 * U75 ≤ 2 ^ e * U75 := Nat.mul_le_mul_right _ (Nat.pow_pos (by decide))
  have e1 : (A * 10 + 1) * U75 = 10 * (A * U75) + U75 := by rw [Nat.add_mul, Nat.one_mul, Nat.mul_right_comm, Nat.mul_comm 10]
  have e2 : (m + 2) * (2 ^ e * U75) = m * (2 ^ e * U75) + 2 * (2 ^ e * U75) := Nat.add_mul _ _ _
  rw [e2, ← g0] at g2
  clear g0 g1 hA
  have g3 : magF (rawM m e + 2) = magF (rawM m e + 1 + 1) := rfl
  rw [g3] at g2
  refine ⟨by omega, fun _ => ?_, fun _ h => ?_, fun _ => ?_, fun _ h => ?_⟩
  · rw [Nat.add_sub_cancel, hs, e1]; exact ar1 _ _
  · rw [Nat.add_sub_cancel, hs, e1] at h; exact (ar2 hu h).elim
  · rw [e1]; exact Nat.le_of_lt (ar3 hs g2 hu2 hu)
  · rw [e1] at h; exact absurd h (Nat.ne_of_lt (ar3 hs g2 hu2 hu))
/-- A little less: the lesser one. -/
theorem near_less : NearF (A * 10 - 1) 10 (rawM m e) := by
  have hs := mid_sum h1 h2 hA
  have ht := rawM_top (m := m) (e := e) (by omega) he
  have hp := rawM_pos (m := m) (e := e) h1
  have m0 : magF (rawM m e - 1) ≤ magF (rawM m e) := magF_le (by omega)
  have g0 := magM (m := m) (e := e) h1 (by omega)
  have g1 := magM (m := m + 1) (e := e) (by omega) (by omega)
  rw [← raw_one, Nat.add_mul, Nat.one_mul, ← g0] at g1
  have hu := U75_pos
  have hu2 : 1 * U75 ≤ 2 ^ e * U75 := Nat.mul_le_mul_right _ (Nat.pow_pos (by decide))
  have hA1 : 1 ≤ A := by rw [hA]; exact Nat.mul_pos (by omega) (Nat.pow_pos (by decide))
  have e1 : (A * 10 - 1) * U75 = 10 * (A * U75) - U75 := by rw [Nat.sub_mul, Nat.one_mul, Nat.mul_right_comm, Nat.mul_comm 10]
  have hA2 : 1 * U75 ≤ A * U75 := Nat.mul_le_mul_right _ hA1
  clear g0 hA
  refine ⟨by omega, fun _ => ?_, fun _ h => ?_, fun _ => ?_, fun _ h => ?_⟩
  · rw [e1]; exact Nat.le_of_lt (ar4 hs m0 g1 hu2 hu)
  · rw [e1] at h; exact absurd h (Nat.ne_of_lt (ar4 hs m0 g1 hu2 hu))
  · rw [hs, e1]; exact Nat.le_of_lt (ar5 hA2 hu)
  · rw [hs, e1] at h; exact absurd h (Nat.ne_of_lt (ar5 hA2 hu))
end
/-- Digits alone are read so. -/
theorem parse_int {x : List UInt8} {R : Nat} (hx : ∀ b ∈ x, isD b) (hne : x ≠ []) (hl : x.length ≤ 300) (hR : NearF (valT x) 1 R) : parseR ⟨x.toArray⟩ = (R, 0) := by
  obtain ⟨ds, h1, h2, h3⟩ := decR_int hx hne
  cases x with
  | nil => exact absurd rfl hne
  | cons b t =>
    rw [parse_digit (hx b (by simp)) (by simp at hl; omega), h1]
    have h4 := nearN_near h3 0
    rw [h2] at h4
    have e1 : valT (b :: t) * 10 ^ (0 : Int).toNat = valT (b :: t) := by simp
    have e2 : (10 : Nat) ^ (-(0 : Int)).toNat = 1 := by simp
    rw [e1, e2] at h4
    simp only
    rw [h4.one hR (by decide) (by decide) rfl]
/-- Digits, a point and a digit. -/
theorem parse_frac {x : List UInt8} {d : UInt8} {R : Nat} (hx : ∀ b ∈ x, isD b) (hne : x ≠ []) (hl : x.length ≤ 300) (hd : isD d) (hR : NearF (valT x * 10 + (d.toNat - 48)) 10 R) : parseR ⟨(x ++ [46, d]).toArray⟩ = (R, 0) := by
  obtain ⟨ds, h1, h2, h3⟩ := decR_frac (y := [d]) hx (fun b hb => by rw [List.mem_singleton.1 hb]; exact hd) hne
  cases x with
  | nil => exact absurd rfl hne
  | cons b t =>
    have h5 := parse_digit (b := b) (t := t ++ [46, d]) (hx b (by simp)) (by simp at hl ⊢; omega)
    rw [← List.cons_append] at h5
    rw [h5, h1]
    have h4 := nearN_near h3 (-(([d] : List UInt8).length : Int))
    rw [h2, valT_append] at h4
    have e0 : valT [d] = d.toNat - 48 := by simp [valT]
    have e1 : ((-(([d] : List UInt8).length : Int)).toNat) = 0 := by simp
    have e2 : (-(-(([d] : List UInt8).length : Int))).toNat = 1 := by simp
    rw [e0, e1, e2, Nat.pow_zero, Nat.mul_one, Nat.pow_one, List.length_singleton, Nat.pow_one] at h4
    have h6 := h4.one hR (by decide) (by decide) rfl
    show (nearN ds (-((1 : Nat) : Int)), (0 : Int)) = (R, 0)
    rw [h6]
end Go.Proofs.YtinfnkhghmcelaaDoor
