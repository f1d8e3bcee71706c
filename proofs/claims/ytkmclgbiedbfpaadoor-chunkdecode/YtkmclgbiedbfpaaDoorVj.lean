/- The document's reading of bits, as lists. -/
import Derived.Test.YtkmclgbiedbfpaaDoorK1
namespace Go.Proofs.YtkmclgbiedbfpaaDoor

def gv (n : Nat) : Option (List Bool) → Nat
  | none => 0
  | some r => if n ≤ r.length then vb (r.take n) else 0
def gr (n : Nat) : Option (List Bool) → Option (List Bool)
  | none => none
  | some r => if n ≤ r.length then some (r.drop n) else none
theorem gr_none (n : Nat) : gr n none = none := rfl
theorem gv_none (n : Nat) : gv n none = 0 := rfl
theorem gr_def (n : Nat) (r : List Bool) : gr n (some r) = if n ≤ r.length then some (r.drop n) else none := rfl
theorem gv_def (n : Nat) (r : List Bool) : gv n (some r) = if n ≤ r.length then vb (r.take n) else 0 := rfl
theorem gv_lt (n : Nat) (o : Option (List Bool)) : gv n o < 2 ^ n := by
  cases o with
  | none => exact Nat.pow_pos (by decide)
  | some r =>
    rw [gv_def]
    split
    · rename_i h
      have := vb_lt (r.take n)
      rw [List.length_take, Nat.min_eq_left h] at this
      exact this
    · exact Nat.pow_pos (by decide)
theorem tk_some {n : Nat} {r r' : List Bool} (h : gr n (some r) = some r') : takeN n r = some (gv n (some r), r') := by
  rw [gr_def] at h
  rw [gv_def]
  unfold takeN
  split at h
  · rename_i h1
    cases h
    rw [if_pos h1, if_pos h1]
  · cases h
theorem tk_none {n : Nat} {r : List Bool} (h : gr n (some r) = none) : takeN n r = none := by
  rw [gr_def] at h
  unfold takeN
  split at h
  · cases h
  · rename_i h1
    rw [if_neg h1]
theorem gv1_cons (b : Bool) (t : List Bool) : gv 1 (some (b :: t)) = b.toNat := by
  simp [gv, vb]
theorem gr1_cons (b : Bool) (t : List Bool) : gr 1 (some (b :: t)) = some t := by simp [gr]
theorem gv1_nil : gv 1 (some []) = 0 := by simp [gv]
theorem gr1_nil : gr 1 (some []) = none := by simp [gr]
theorem bit_one {r : List Bool} (h : gv 1 (some r) = 1) : ∃ t, r = true :: t := by
  cases r with
  | nil => rw [gv1_nil] at h; cases h
  | cons b t =>
    rw [gv1_cons] at h
    cases b
    · cases h
    · exact ⟨t, rfl⟩
theorem bit_not {r : List Bool} (h : gv 1 (some r) ≠ 1) : r = [] ∨ ∃ t, r = false :: t := by
  cases r with
  | nil => exact Or.inl rfl
  | cons b t =>
    rw [gv1_cons] at h
    cases b
    · exact Or.inr ⟨t, rfl⟩
    · exact absurd rfl h
/-! the value -/
theorem value_no {s : An} {r : List Bool} (h : gv 1 (some r) ≠ 1) : takeValue s r = (gr 1 (some r)).map fun r1 => (s, r1) := by
  rcases bit_not h with rfl | ⟨t, rfl⟩
  · rfl
  · rw [gr1_cons]
    rfl
theorem value_old {s : An} {r : List Bool} (h : gv 1 (some r) = 1) (h2 : gv 1 (gr 1 (some r)) ≠ 1) :
    takeValue s r = if s.size = 0 then none else (gr s.size (gr 1 (gr 1 (some r)))).map fun r5 => ({ s with v := s.v ^^^ (gv s.size (gr 1 (gr 1 (some r))) <<< (64 - s.lead - s.size)) }, r5) := by
  obtain ⟨t, rfl⟩ := bit_one h
  rw [gr1_cons] at h2 ⊢
  rcases bit_not h2 with rfl | ⟨t, rfl⟩
  · rw [gr1_nil]
    simp [takeValue, gr]
  · rw [gr1_cons]
    show takeX s t = _
    unfold takeX
    split
    · rfl
    · cases h5 : gr s.size (some t) with
      | none => rw [tk_none h5]; rfl
      | some r5 => rw [tk_some h5]; rfl
theorem value_new {s : An} {r : List Bool} (h : gv 1 (some r) = 1) (h2 : gv 1 (gr 1 (some r)) = 1) (o3 o4 o5 : Option (List Bool)) (h3 : o3 = gr 1 (gr 1 (some r))) (h4 : o4 = gr 5 o3) (h5 : o5 = gr 6 o4) :
    takeValue s r = if gv 5 o3 + gv 6 o4 ≤ 63 then (gr (gv 6 o4 + 1) o5).map fun r6 => ({ s with lead := gv 5 o3, size := gv 6 o4 + 1, v := s.v ^^^ (gv (gv 6 o4 + 1) o5 <<< (63 - gv 5 o3 - gv 6 o4)) }, r6) else none := by
  obtain ⟨t, rfl⟩ := bit_one h
  rw [gr1_cons] at h2 h3
  obtain ⟨t, rfl⟩ := bit_one h2
  rw [gr1_cons] at h3
  subst h3
  show (takeWin s t).bind _ = _
  unfold takeWin
  cases h6 : gr 5 (some t) with
  | none =>
    rw [h6] at h4
    subst h4
    subst h5
    rw [tk_none h6]
    simp [gr]
  | some r4 =>
    rw [h6] at h4
    subst h4
    rw [tk_some h6, Option.bind_some]
    dsimp only
    cases h7 : gr 6 (some r4) with
    | none =>
      rw [h7] at h5
      subst h5
      rw [tk_none h7]
      simp [gr]
    | some r5 =>
      rw [h7] at h5
      subst h5
      rw [tk_some h7, Option.bind_some]
      dsimp only
      generalize gv 5 (some t) = a
      generalize gv 6 (some r4) = b
      by_cases h8 : a + b ≤ 63
      · rw [if_pos (by omega), if_pos h8, Option.bind_some]
        dsimp only
        unfold takeX
        rw [if_neg (by show ¬ b + 1 = 0; omega)]
        dsimp only
        cases h9 : gr (b + 1) (some r5) with
        | none => rw [tk_none h9]; rfl
        | some r6 =>
          rw [tk_some h9, show 64 - a - (b + 1) = 63 - a - b by omega]
          rfl
      · rw [if_neg (by omega), if_neg h8]
        rfl
/-! the change of the step -/
def chK : Nat → List Bool → Option (Nat × List Bool)
  | 0, u => some (0, u)
  | 1, u => takeC 7 63 u
  | 2, u => takeC 9 255 u
  | _, u => takeC 12 2047 u
theorem change_ones (r t : List Bool) (k : Nat) (hr : r = List.replicate k true ++ t) (hk : k < 4) :
    (∀ u, t = false :: u → takeChange r = chK k u) ∧ (t = [] → takeChange r = none) := by
  subst hr
  match k, hk with
  | 0, _ => exact ⟨fun u hu => by subst hu; rfl, fun hu => by subst hu; rfl⟩
  | 1, _ => exact ⟨fun u hu => by subst hu; rfl, fun hu => by subst hu; rfl⟩
  | 2, _ => exact ⟨fun u hu => by subst hu; rfl, fun hu => by subst hu; rfl⟩
  | 3, _ => exact ⟨fun u hu => by subst hu; rfl, fun hu => by subst hu; rfl⟩
theorem change_four (r t : List Bool) (hr : r = List.replicate 4 true ++ t) : takeChange r = takeN 64 t := by
  subst hr
  rfl
theorem takeC_gr (n b : Nat) (u : List Bool) : takeC n b u = (gr n (some u)).map fun r => ((gv n (some u) + (18446744073709551616 - b)) % 18446744073709551616, r) := by
  unfold takeC
  cases h : gr n (some u) with
  | none => rw [tk_none h]; rfl
  | some r => rw [tk_some h]; rfl
theorem takeN_gr (n : Nat) (u : List Bool) : takeN n u = (gr n (some u)).map fun r => (gv n (some u), r) := by
  cases h : gr n (some u) with
  | none => rw [tk_none h]; rfl
  | some r => rw [tk_some h]; rfl
/-- what is left behind the change -/
def dr : Option (List Bool) → Option (List Bool)
  | none => none
  | some r => (takeChange r).map fun p => p.2

end Go.Proofs.YtkmclgbiedbfpaaDoor
