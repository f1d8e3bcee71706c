/- Chunks: one to one; what begins what; equal steps. -/
import Derived.Test.YtkmclgbiedbfpaaDoorK1
namespace Go.Proofs.YtkmclgbiedbfpaaDoor

theorem enc_inj {a b : List Sm} (ha : a.length ≤ 120) (hb : b.length ≤ 120) (h : encR a = encR b) : a = b := by
  rw [← decR_enc a (by omega), ← decR_enc b (by omega), h]
theorem tailB_app (s : An) (a b : List Sm) : tailB s (a ++ b) = tailB s a ++ tailB (a.foldl stS s) b := by
  induction a generalizing s with
  | nil => rfl
  | cons x t ih => simp [tailB, ih]
theorem encB_app (a b : List Sm) : ∃ r, encB (a ++ b) = encB a ++ r := by
  cases a with
  | nil => exact ⟨encB b, rfl⟩
  | cons x t => exact ⟨tailB (t.foldl stS (s1 x)) b, by simp [encB, tailB_app]⟩
theorem pk_take (bs : List Bool) : (pk bs).take (bs.length / 8) = pkN (bs.length / 8) bs := by
  by_cases h : bs.length % 8 = 0
  · rw [pk_whole bs h, List.take_of_length_le (by rw [pkN_length]; omega)]
  · rw [pk_part bs h, List.take_left' (pkN_length _ _)]
theorem pkN_take (k n : Nat) (bs : List Bool) (h : k ≤ n) : (pkN n bs).take k = pkN k bs := by
  unfold pkN
  rw [← List.map_take, List.take_range, Nat.min_eq_left h]
theorem pk_begins (a b : List Bool) : (pk (a ++ b)).take (a.length / 8) = (pk a).take (a.length / 8) := by
  rw [pk_take a, pk, pkN_take _ _ _ (by rw [List.length_append]; omega), pkN_app _ _ _ (by omega)]
/-- What is packed of the first begins what is packed of all, behind the count. -/
theorem enc_begins (l : List Sm) (k n : Nat) (hn : n = (16 + (encB (l.take k)).length) / 8) :
    2 ≤ n ∧ n ≤ (encR (l.take k)).length ∧ n ≤ (encR l).length ∧ ((encR (l.take k)).take n).drop 2 = ((encR l).take n).drop 2 := by
  obtain ⟨r, hr⟩ := encB_app (l.take k) (l.drop k)
  rw [List.take_append_drop] at hr
  have e : n = (encB (l.take k)).length / 8 + 2 := by omega
  subst e
  have h1 := pk_length (encB (l.take k))
  have h2 := pk_length (encB l)
  have h3 : (encB l).length = (encB (l.take k)).length + r.length := by rw [hr, List.length_append]
  refine ⟨by omega, by unfold encR; simp only [List.length_cons]; omega, by unfold encR; simp only [List.length_cons]; omega, ?_⟩
  unfold encR
  simp only [List.take_succ_cons, List.drop_succ_cons, List.drop_zero]
  rw [hr, pk_begins]
theorem timeB_len (c : Nat) : 1 ≤ (timeB c).length ∧ (timeB c).length ≤ 68 := by
  unfold timeB
  split
  · simp [wb_length]
  · split
    · simp [wb_length]
    · split
      · simp [wb_length]
      · split <;> simp [wb_length]
/-- samples at equal steps -/
def stL (t s : Nat) (v : UInt64) (n : Nat) : List Sm := (List.range n).map fun i => (UInt64.ofNat (t + i * s), v)
theorem stL_succ (t s : Nat) (v : UInt64) (n : Nat) : stL t s v (n + 1) = stL t s v n ++ [(UInt64.ofNat (t + n * s), v)] := by simp [stL, List.range_succ]
theorem stL_length (t s : Nat) (v : UInt64) (n : Nat) : (stL t s v n).length = n := by simp [stL]
theorem stL_take (t s : Nat) (v : UInt64) (n k : Nat) (h : k ≤ n) : (stL t s v n).take k = stL t s v k := by
  unfold stL
  rw [← List.map_take, List.take_range, Nat.min_eq_left h]
theorem st_one (T d s : Nat) (v : UInt64) (hT : T + s < 9223372036854775808) (hd : d = 0 ∨ d = s) :
    stS ⟨T, d, v.toNat, 0, 0⟩ (UInt64.ofNat (T + s), v) = ⟨T + s, s, v.toNat, 0, 0⟩ ∧ (stB ⟨T, d, v.toNat, 0, 0⟩ (UInt64.ofNat (T + s), v)).length = (timeB (s - d)).length + 1 := by
  have e0 : (UInt64.ofNat (T + s)).toNat = T + s := by rw [UInt64.toNat_ofNat']; omega
  have e1 : dlt ⟨T, d, v.toNat, 0, 0⟩ (T + s) = s := by unfold dlt; dsimp only; omega
  have e2 : chg ⟨T, d, v.toNat, 0, 0⟩ (T + s) = s - d := by
    unfold chg
    rw [e1]
    dsimp only
    rcases hd with rfl | rfl <;> omega
  constructor
  · unfold stS
    dsimp only
    rw [e0, e1, Nat.xor_self]
    rfl
  · unfold stB
    dsimp only
    rw [e0, e2, Nat.xor_self, List.length_append]
    rfl
theorem stL_ne (t s : Nat) (v : UInt64) (n : Nat) : stL t s v (n + 1) ≠ [] := by simp [stL]
theorem steady (t s : Nat) (v : UInt64) (n : Nat) (ht : t + (n + 1) * s < 9223372036854775808) :
    encS (stL t s v (n + 2)) = ⟨t + (n + 1) * s, s, v.toNat, 0, 0⟩ ∧ (encB (stL t s v (n + 2))).length = 129 + (timeB s).length + 2 * n := by
  induction n with
  | zero =>
    have e0 : (UInt64.ofNat t).toNat = t := by rw [UInt64.toNat_ofNat']; omega
    have e1 : encS (stL t s v 1) = ⟨t, 0, v.toNat, 0, 0⟩ := by
      show s1 (UInt64.ofNat (t + 0 * s), v) = _
      unfold s1
      dsimp only
      rw [Nat.zero_mul, Nat.add_zero, e0]
    have e2 : (encB (stL t s v 1)).length = 128 := by
      show (wb 64 _ ++ wb 64 _ ++ []).length = _
      simp [wb_length]
    have h := st_one t 0 s v (by omega) (Or.inl rfl)
    rw [show (0 + 2 : Nat) = 1 + 1 from rfl, stL_succ, encS_snoc _ _ (stL_ne t s v 0), encB_snoc _ _ (stL_ne t s v 0), e1, List.length_append, e2]
    rw [show 1 * s = s by omega, h.1, h.2]
    exact ⟨rfl, by rw [Nat.sub_zero]; omega⟩
  | succ n ih =>
    have e9 : (n + 1 + 1) * s = (n + 1) * s + s := by rw [Nat.add_mul (n + 1), Nat.one_mul]
    rw [e9] at ht
    obtain ⟨h1, h2⟩ := ih (by omega)
    have h := st_one (t + (n + 1) * s) s s v (by omega) (Or.inr rfl)
    rw [show (n + 1 + 2 : Nat) = (n + 2) + 1 from rfl, stL_succ, encS_snoc _ _ (stL_ne t s v (n + 1)), encB_snoc _ _ (stL_ne t s v (n + 1)), h1, List.length_append, h2]
    rw [show (n + 2) * s = (n + 1) * s + s by rw [Nat.add_mul (n + 1) 1, Nat.one_mul], ← Nat.add_assoc, h.1, h.2, Nat.sub_self]
    exact ⟨rfl, by have : (timeB 0).length = 1 := rfl; omega⟩
theorem steady_one (t s : Nat) (v : UInt64) : (encB (stL t s v 1)).length = 128 := by
  show (wb 64 _ ++ wb 64 _ ++ []).length = _
  simp [wb_length]

end Go.Proofs.YtkmclgbiedbfpaaDoor
