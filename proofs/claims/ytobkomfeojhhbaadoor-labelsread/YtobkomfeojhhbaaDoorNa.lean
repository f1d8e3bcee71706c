/- A set's bytes are read as it, and what is read is written so. -/
import Derived.Test.YtobkomfeojhhbaaDoorLj
import Derived.Test.YtobkomfeojhhbaaDoorLw
namespace Go.Proofs.YtobkomfeojhhbaaDoor

def cutT : List UInt8 → Option (ByteArray × List UInt8)
  | a :: b :: r => if a.toNat * 256 + b.toNat ≤ r.length then some (⟨(r.take (a.toNat * 256 + b.toNat)).toArray⟩, r.drop (a.toNat * 256 + b.toNat)) else none
  | _ => none
def cut2 (bs : List UInt8) : Option (Lb × List UInt8) := match cutT bs with
  | none => none
  | some (x, r) => match cutT r with
    | none => none
    | some (y, r2) => some ((x, y), r2)
def readN : Nat → List UInt8 → Option (List Lb × List UInt8)
  | 0, bs => some ([], bs)
  | n + 1, bs => match readN n bs with
    | none => none
    | some (l, r) => match cut2 r with
      | none => none
      | some (x, r2) => some (l ++ [x], r2)
def readR (bs : List UInt8) : List Lb × Int := match bs with
  | [] => ([], 8)
  | c :: r => match readN c.toNat r with
    | none => ([], 8)
    | some (l, rest) => if (rest.isEmpty && rightS l) = true then (l, 0) else ([], 8)

theorem cutT_txt (s : ByteArray) (r : List UInt8) (hs : s.size ≤ 60000) : cutT (txt s ++ r) = some (s, r) := by
  have hn : (UInt8.ofNat (s.size / 256)).toNat * 256 + (UInt8.ofNat s.size).toNat = s.size := by
    rw [UInt8.toNat_ofNat', UInt8.toNat_ofNat']
    omega
  have hl : s.data.toList.length = s.size := by rw [Array.length_toList]; rfl
  show cutT (UInt8.ofNat (s.size / 256) :: UInt8.ofNat s.size :: (s.data.toList ++ r)) = _
  unfold cutT
  simp only [hn]
  rw [if_pos (by rw [List.length_append]; omega), ← hl, List.take_left, List.drop_left]
theorem cutT_some {bs r : List UInt8} {x : ByteArray} (h : cutT bs = some (x, r)) : bs = txt x ++ r ∧ x.size < 65536 := by
  match bs, h with
  | a :: b :: q, h =>
    have ha := a.toNat_lt
    have hb := b.toNat_lt
    unfold cutT at h
    dsimp only at h
    obtain ⟨n, hn⟩ : ∃ n, n = a.toNat * 256 + b.toNat := ⟨_, rfl⟩
    rw [← hn] at h
    by_cases hc : n ≤ q.length
    · rw [if_pos hc] at h
      simp only [Option.some.injEq, Prod.mk.injEq] at h
      obtain ⟨rfl, rfl⟩ := h
      have hsz : (⟨(q.take n).toArray⟩ : ByteArray).size = n := by
        show (q.take n).toArray.size = n
        rw [List.size_toArray, List.length_take]
        omega
      have h1 : UInt8.ofNat (n / 256) = a := by
        apply UInt8.toNat_inj.1
        rw [UInt8.toNat_ofNat']
        omega
      have h2 : UInt8.ofNat n = b := by
        apply UInt8.toNat_inj.1
        rw [UInt8.toNat_ofNat']
        omega
      refine ⟨?_, by omega⟩
      unfold txt
      rw [hsz, h1, h2]
      show _ = [a, b] ++ q.take n ++ q.drop n
      rw [List.append_assoc, List.take_append_drop]
      rfl
    · rw [if_neg hc] at h
      cases h
theorem cut2_lab (x : Lb) (r : List UInt8) (h1 : x.1.size ≤ 60000) (h2 : x.2.size ≤ 60000) : cut2 (lab x ++ r) = some (x, r) := by
  unfold cut2 lab
  rw [List.append_assoc, cutT_txt _ _ h1]
  simp only [cutT_txt _ _ h2]
theorem cut2_some {bs r : List UInt8} {x : Lb} (h : cut2 bs = some (x, r)) : bs = lab x ++ r ∧ x.1.size < 65536 ∧ x.2.size < 65536 := by
  unfold cut2 at h
  cases h1 : cutT bs with
  | none => rw [h1] at h; cases h
  | some p =>
    obtain ⟨a, q⟩ := p
    rw [h1] at h
    dsimp only at h
    cases h2 : cutT q with
    | none => rw [h2] at h; cases h
    | some p =>
      obtain ⟨b, q2⟩ := p
      rw [h2] at h
      simp only [Option.some.injEq, Prod.mk.injEq] at h
      obtain ⟨rfl, rfl⟩ := h
      obtain ⟨e1, s1⟩ := cutT_some h1
      obtain ⟨e2, s2⟩ := cutT_some h2
      refine ⟨?_, s1, s2⟩
      unfold lab
      rw [List.append_assoc, ← e2, ← e1]
theorem readN_labs (ls : List Lb) (r : List UInt8) (hs : ∀ x ∈ ls, x.1.size ≤ 60000 ∧ x.2.size ≤ 60000) : ∀ n, n ≤ ls.length → readN n (ls.flatMap lab ++ r) = some (ls.take n, (ls.drop n).flatMap lab ++ r)
  | 0, _ => by simp [readN]
  | n + 1, hn => by
    unfold readN
    rw [readN_labs ls r hs n (by omega)]
    have hlt : n < ls.length := by omega
    obtain ⟨h1, h2⟩ := hs _ (List.getElem_mem hlt)
    rw [List.drop_eq_getElem_cons hlt, List.flatMap_cons, List.append_assoc]
    simp only [cut2_lab _ _ h1 h2]
    rw [List.take_succ_eq_append_getElem hlt]
theorem readN_some : ∀ (n : Nat) {bs r : List UInt8} {l : List Lb}, readN n bs = some (l, r) → bs = l.flatMap lab ++ r ∧ l.length = n
  | 0, bs, r, l, h => by
    simp only [readN, Option.some.injEq, Prod.mk.injEq] at h
    obtain ⟨rfl, rfl⟩ := h
    exact ⟨rfl, rfl⟩
  | n + 1, bs, r, l, h => by
    unfold readN at h
    cases h1 : readN n bs with
    | none => rw [h1] at h; cases h
    | some p =>
      obtain ⟨l1, r1⟩ := p
      rw [h1] at h
      dsimp only at h
      cases h2 : cut2 r1 with
      | none => rw [h2] at h; cases h
      | some p =>
        obtain ⟨x, r2⟩ := p
        rw [h2] at h
        simp only [Option.some.injEq, Prod.mk.injEq] at h
        obtain ⟨rfl, rfl⟩ := h
        obtain ⟨e1, hl⟩ := readN_some n h1
        obtain ⟨e2, -⟩ := cut2_some h2
        refine ⟨?_, by rw [List.length_append, hl]; rfl⟩
        rw [List.flatMap_append, List.append_assoc, e1, e2]
        simp
theorem readN_sized : ∀ (n : Nat) {bs r : List UInt8} {l : List Lb}, readN n bs = some (l, r) → ∀ x ∈ l, x.1.size < 65536 ∧ x.2.size < 65536
  | 0, bs, r, l, h => by
    simp only [readN, Option.some.injEq, Prod.mk.injEq] at h
    obtain ⟨rfl, rfl⟩ := h
    intro x hx
    cases hx
  | n + 1, bs, r, l, h => by
    unfold readN at h
    cases h1 : readN n bs with
    | none => rw [h1] at h; cases h
    | some p =>
      obtain ⟨l1, r1⟩ := p
      rw [h1] at h
      dsimp only at h
      cases h2 : cut2 r1 with
      | none => rw [h2] at h; cases h
      | some p =>
        obtain ⟨y, r2⟩ := p
        rw [h2] at h
        simp only [Option.some.injEq, Prod.mk.injEq] at h
        obtain ⟨rfl, rfl⟩ := h
        intro x hx
        rcases List.mem_append.1 hx with h9 | h9
        · exact readN_sized n h1 x h9
        · have : x = y := by simpa using h9
          rw [this]
          exact (cut2_some h2).2
theorem readN_stuck {bs : List UInt8} {j : Nat} (h : readN j bs = none) : ∀ n, j ≤ n → readN n bs = none
  | 0, hn => by
    have : j = 0 := by omega
    subst this
    exact h
  | n + 1, hn => by
    rcases Nat.lt_or_ge n j with h1 | h1
    · have : j = n + 1 := by omega
      subst this
      exact h
    · unfold readN
      rw [readN_stuck h n h1]
theorem readN_fails {bs r : List UInt8} {l : List Lb} {j n : Nat} (h : readN j bs = some (l, r)) (hc : cut2 r = none) (hn : j < n) : readN n bs = none :=
  readN_stuck (j := j + 1) (by unfold readN; rw [h]; simp only [hc]) n hn
theorem readN_next {bs r r2 : List UInt8} {l : List Lb} {x : Lb} {j : Nat} (h : readN j bs = some (l, r)) (hc : cut2 r = some (x, r2)) : readN (j + 1) bs = some (l ++ [x], r2) := by
  unfold readN
  rw [h]
  simp only [hc]
theorem readN_less {bs r : List UInt8} {l : List Lb} {j : Nat} (h : readN j bs = some (l, r)) : r.length ≤ bs.length := by
  have := (readN_some j h).1
  rw [this, List.length_append]
  omega
theorem right_short {ls : List Lb} (h : rightS ls = true) : ∀ x ∈ ls, x.1.size ≤ 1024 ∧ x.2.size ≤ 1024 := fun x hx => by
  have h1 := ((rightS_iff ls).1 h).2.2 _ hx
  unfold okLb at h1
  rw [Bool.and_eq_true] at h1
  exact fair_short h1.2
theorem right_Short {ls : List Lb} (h : rightS ls = true) : Short ls := fun _i hi => right_short h _ (List.getElem_mem hi)
theorem readR_bytes {ls : List Lb} (h : rightS ls = true) : readR (bytesL ls) = (ls, 0) := by
  have h64 := ((rightS_iff ls).1 h).1
  show readR (UInt8.ofNat ls.length :: ls.flatMap lab) = _
  unfold readR
  have hn : (UInt8.ofNat ls.length).toNat = ls.length := by rw [UInt8.toNat_ofNat']; omega
  have h1 := readN_labs ls [] (fun x hx => by have := right_short h x hx; omega) ls.length (Nat.le_refl _)
  rw [List.append_nil, List.take_length, List.drop_length] at h1
  simp only [hn, h1]
  rw [h]
  rfl
theorem readR_ok {bs : List UInt8} {l : List Lb} (h : readR bs = (l, 0)) : bytesL l = bs ∧ rightS l = true := by
  match bs, h with
  | [], h => cases h
  | c :: r, h =>
    unfold readR at h
    dsimp only at h
    cases h1 : readN c.toNat r with
    | none => rw [h1] at h; cases h
    | some p =>
      obtain ⟨l1, rest⟩ := p
      rw [h1] at h
      dsimp only at h
      by_cases hc : (rest.isEmpty && rightS l1) = true
      · rw [if_pos hc] at h
        rw [Bool.and_eq_true] at hc
        simp only [Prod.mk.injEq] at h
        obtain ⟨rfl, -⟩ := h
        obtain ⟨e, hl⟩ := readN_some _ h1
        have e2 : rest = [] := by simpa using hc.1
        refine ⟨?_, hc.2⟩
        unfold bytesL
        rw [e, e2, List.append_nil, hl]
        have : UInt8.ofNat c.toNat = c := by simp
        rw [this]
        rfl
      · rw [if_neg hc] at h
        cases h
theorem readR_err {bs : List UInt8} (h : (readR bs).2 ≠ 0) : readR bs = ([], 8) := by
  match bs, h with
  | [], _ => rfl
  | c :: r, h =>
    unfold readR at *
    dsimp only at *
    cases h1 : readN c.toNat r with
    | none => rfl
    | some p =>
      obtain ⟨l1, rest⟩ := p
      rw [h1] at h
      dsimp only at *
      by_cases hc : (rest.isEmpty && rightS l1) = true
      · rw [if_pos hc] at h
        exact absurd rfl h
      · rw [if_neg hc]
theorem bytesL_inj {a b : List Lb} (ha : rightS a = true) (hb : rightS b = true) : bytesL a = bytesL b ↔ a = b := by
  constructor
  · intro e
    have h1 := readR_bytes ha
    rw [e, readR_bytes hb] at h1
    exact (Prod.mk.inj h1).1.symm
  · intro e
    rw [e]
/-- More than 64 labels are none. -/
theorem readR_many {c : UInt8} {r : List UInt8} (h : 64 < c.toNat) : readR (c :: r) = ([], 8) := by
  unfold readR
  dsimp only
  cases h1 : readN c.toNat r with
  | none => rfl
  | some p =>
    obtain ⟨l1, rest⟩ := p
    dsimp only
    obtain ⟨-, hl⟩ := readN_some _ h1
    rw [if_neg]
    rw [Bool.and_eq_true]
    rintro ⟨-, h2⟩
    have := ((rightS_iff l1).1 h2).1
    omega

end Go.Proofs.YtobkomfeojhhbaaDoor
