/- A float's text is read as the float. -/
import Derived.Test.YtididjnijadphaaDoorMFf
namespace Go.Proofs.YtididjnijadphaaDoor

theorem valT_noughts : ∀ m : Nat, valT (List.replicate m 48) = 0
  | 0 => rfl
  | m + 1 => by
    rw [List.replicate_succ, valT_cons, valT_noughts m]
    have : (48 : UInt8).toNat = 48 := rfl
    rw [this]
    simp
theorem noughts_isD (m : Nat) : ∀ b ∈ List.replicate m (48 : UInt8), isD b := fun b hb => by
  rw [List.eq_of_mem_replicate hb]
  unfold isD
  decide
/-- So a text is read. -/
def ReadAs (T : List UInt8) (raw : Nat) : Prop := ∃ b t, T = b :: t ∧ isD b ∧ t.length < 300 ∧ ∃ ds p, decR ⟨T.toArray⟩ = some (ds, p) ∧ nearN ds p = raw
theorem plain_read {raw : Nat} (h0 : 0 < raw) (h1 : raw < 9218868437227405312) (hk : -5 ≤ (dgR raw).2 ∧ (dgR raw).2 ≤ 21) : ReadAs (plainR (dgR raw).1 (dgR raw).2) raw := by
  obtain ⟨hd, hs⟩ := dig_same h0 h1
  obtain ⟨l1, l2, -, -⟩ := dg_len h0 h1
  have hpl := plain_len (dgR raw).1 (dgR raw).2 (by omega) hk.1 hk.2
  generalize (dgR raw).1 = d at *
  generalize (dgR raw).2 = E at *
  have hne : d ≠ [] := List.length_pos_iff.1 l1
  unfold plainR at hpl ⊢
  by_cases he : E ≤ 0
  · rw [if_pos he] at hpl ⊢
    have hy : ∀ b ∈ List.replicate (-E).toNat 48 ++ d, isD b := fun b hb => by
      rcases List.mem_append.1 hb with h | h
      · exact noughts_isD _ b h
      · exact hd b h
    have h48 : isD 48 := by unfold isD; decide
    obtain ⟨ds, e1, e2, e3⟩ := decR_frac (x := [48]) (y := List.replicate (-E).toNat 48 ++ d) (fun b hb => by rw [List.mem_singleton.1 hb]; exact h48) hy (by simp)
    refine ⟨48, 46 :: (List.replicate (-E).toNat 48 ++ d), rfl, h48, by simp at hpl ⊢; omega, ds, _, e1, ?_⟩
    have hv : valT ([48] ++ (List.replicate (-E).toNat 48 ++ d)) = valT d := by
      rw [List.singleton_append, valT_cons, valT_append, valT_noughts]
      have : (48 : UInt8).toNat = 48 := rfl
      rw [this]
      simp
    have hn := nearN_near e3 (-(((List.replicate (-E).toNat (48 : UInt8) ++ d).length : Nat) : Int))
    have hp : -(((List.replicate (-E).toNat (48 : UInt8) ++ d).length : Nat) : Int) = E - (d.length : Nat) := by simp; omega
    rw [e2, hv, hp] at hn
    rw [hp]
    exact hs _ hn
  · rw [if_neg he] at hpl ⊢
    by_cases hl : (d.length : Int) ≤ E
    · rw [if_pos hl] at hpl ⊢
      have hy : ∀ b ∈ d ++ List.replicate (E - d.length).toNat 48, isD b := fun b hb => by
        rcases List.mem_append.1 hb with h | h
        · exact hd b h
        · exact noughts_isD _ b h
      obtain ⟨ds, e1, e2, e3⟩ := decR_int hy (by simp [hne])
      obtain ⟨b, t, rfl⟩ : ∃ b t, d = b :: t := by
        cases d with
        | nil => exact absurd rfl hne
        | cons b t => exact ⟨b, t, rfl⟩
      refine ⟨b, t ++ List.replicate (E - (b :: t).length).toNat 48, rfl, hd b (by simp), by simp at hpl ⊢; omega, ds, 0, e1, ?_⟩
      have hn := nearN_near e3 0
      rw [e2, valT_append, valT_noughts, List.length_replicate] at hn
      apply hs
      have z1 : (-(E - (((b :: t).length : Nat) : Int))).toNat = 0 := by omega
      rw [z1]
      simpa using hn
    · rw [if_neg hl] at hpl ⊢
      obtain ⟨k, rfl⟩ : ∃ k : Nat, E = k := ⟨E.toNat, by omega⟩
      rw [Int.toNat_natCast] at hpl ⊢
      obtain ⟨ds, e1, e2, e3⟩ := decR_frac (x := d.take k) (y := d.drop k) (fun b hb => hd b (List.mem_of_mem_take hb)) (fun b hb => hd b (List.mem_of_mem_drop hb)) (by
        intro e
        have : (d.take k).length = 0 := by rw [e]; rfl
        rw [List.length_take] at this
        omega)
      obtain ⟨b, t, hbt⟩ : ∃ b t, d.take k = b :: t := by
        cases hq : d.take k with
        | nil =>
          exfalso
          have : (d.take k).length = 0 := by rw [hq]; rfl
          rw [List.length_take] at this
          omega
        | cons b t => exact ⟨b, t, rfl⟩
      have hbm : b ∈ d := List.mem_of_mem_take (i := k) (by rw [hbt]; simp)
      refine ⟨b, t ++ 46 :: d.drop k, by rw [hbt]; rfl, hd b hbm, by rw [hbt] at hpl; simp at hpl ⊢; omega, ds, _, e1, ?_⟩
      have hn := nearN_near e3 (-(((d.drop k).length : Nat) : Int))
      have hp : -(((d.drop k).length : Nat) : Int) = (k : Int) - (d.length : Nat) := by simp; omega
      rw [e2, List.take_append_drop, hp] at hn
      rw [hp]
      exact hs _ hn
theorem pow_read {raw : Nat} (h0 : 0 < raw) (h1 : raw < 9218868437227405312) : ReadAs (powR (dgR raw).1 (dgR raw).2) raw := by
  obtain ⟨hd, hs⟩ := dig_same h0 h1
  obtain ⟨l1, l2, l3, l4⟩ := dg_len h0 h1
  have hpl := pow_len (dgR raw).1 (dgR raw).2 (by omega) (by omega) (by omega)
  generalize (dgR raw).1 = d at *
  generalize (dgR raw).2 = E at *
  obtain ⟨b, t, rfl⟩ : ∃ b t, d = b :: t := by
    cases d with
    | nil => simp at l1
    | cons b t => exact ⟨b, t, rfl⟩
  -- the power
  obtain ⟨k, hk, hke⟩ : ∃ k, (if E - 1 < 0 then ([101, 45] : List UInt8) else [101, 43]) ++ (if -10 < E - 1 ∧ E - 1 < 10 then [48] else []) ++ Lib.decDigits (E - 1).natAbs = 101 :: k ∧ expR ⟨k.toArray⟩ = (E - 1, true) := by
    obtain ⟨a1, a2, a3⟩ := dec_val (E - 1).natAbs (E - 1).natAbs (Nat.le_refl _)
    have hpad : ∃ q : List UInt8, q = (if -10 < E - 1 ∧ E - 1 < 10 then [48] else []) ++ Lib.decDigits (E - 1).natAbs ∧ (∀ b ∈ q, isD b) ∧ q ≠ [] ∧ valT q = (E - 1).natAbs := by
      refine ⟨_, rfl, fun b hb => ?_, by simp [a2], ?_⟩
      · rcases List.mem_append.1 hb with h | h
        · split at h
          · rw [List.mem_singleton.1 h]; unfold isD; decide
          · simp at h
        · exact a1 b h
      · split
        · rw [List.singleton_append, valT_cons, a3]
          have : (48 : UInt8).toNat = 48 := rfl
          rw [this]
          simp
        · rw [List.nil_append, a3]
    obtain ⟨q, hq, q1, q2, q3⟩ := hpad
    rw [List.append_assoc, ← hq]
    split
    · refine ⟨45 :: q, rfl, ?_⟩
      rw [expR_minus q1 q2 (by omega), q3]
      congr 1
      omega
    · refine ⟨43 :: q, rfl, ?_⟩
      rw [expR_plus q1 q2 (by omega), q3]
      congr 1
      omega
  have hT : powR (b :: t) E = (b :: t).take 1 ++ (if 1 < (b :: t).length then 46 :: (b :: t).drop 1 else []) ++ 101 :: k := by
    unfold powR
    rw [List.append_assoc, List.append_assoc, List.append_assoc, ← hk]
    simp only [List.append_assoc]
  rw [hT] at hpl ⊢
  have hb := hd b (by simp)
  by_cases hn : 1 < (b :: t).length
  · rw [if_pos hn] at hpl ⊢
    obtain ⟨ds, e1, e2, e3⟩ := decR_point (x := [b]) (y := t) (fun c hc => by rw [List.mem_singleton.1 hc]; exact hb) (fun c hc => hd c (by simp [hc])) (by simp) hke
    have hform : (b :: t).take 1 ++ 46 :: (b :: t).drop 1 ++ 101 :: k = [b] ++ 46 :: (t ++ 101 :: k) := by simp
    rw [hform] at hpl ⊢
    refine ⟨b, 46 :: (t ++ 101 :: k), rfl, hb, by simp at hpl ⊢; omega, ds, _, e1, ?_⟩
    have hnn := nearN_near e3 (E - 1 - (t.length : Nat))
    have hp : E - 1 - (t.length : Nat) = E - ((b :: t).length : Nat) := by simp; omega
    rw [e2, List.singleton_append, hp] at hnn
    rw [hp]
    exact hs _ hnn
  · rw [if_neg hn] at hpl ⊢
    have ht : t = [] := by
      cases t with
      | nil => rfl
      | cons c u => simp at hn
    subst ht
    obtain ⟨ds, e1, e2, e3⟩ := decR_whole (x := [b]) (fun c hc => by rw [List.mem_singleton.1 hc]; exact hb) (by simp) hke
    have hform : [b].take 1 ++ [] ++ 101 :: k = [b] ++ 101 :: k := by simp
    rw [hform] at hpl ⊢
    refine ⟨b, 101 :: k, rfl, hb, by simp at hpl ⊢; omega, ds, _, e1, ?_⟩
    have hnn := nearN_near e3 (E - 1)
    have hp : E - 1 = E - (([b] : List UInt8).length : Nat) := by simp
    rw [e2, hp] at hnn
    rw [hp]
    exact hs _ hnn
end Go.Proofs.YtididjnijadphaaDoor
