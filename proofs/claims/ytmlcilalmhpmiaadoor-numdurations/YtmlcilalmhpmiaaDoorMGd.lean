/- Durations and seconds (pure): how a duration is cut into parts, read and written. -/
import Derived.Test.YtmlcilalmhpmiaaDoorMEl
import Derived.Test.YtmlcilalmhpmiaaDoorMFa
import Derived.Lib.TrimByte
namespace Go.Proofs.YtmlcilalmhpmiaaDoor
open Go

def isDB (b : UInt8) : Bool := decide (48 ≤ b.toNat) && decide (b.toNat ≤ 57)
theorem isDB_iff (b : UInt8) : isDB b = true ↔ isD b := by unfold isDB isD; simp
def isLB (b : UInt8) : Bool := decide (97 ≤ b.toNat) && decide (b.toNat ≤ 122)
/-- What a duration's next part is: its number, the unit's name, the rest. -/
def cutP (l : List UInt8) : Option (Nat × List UInt8 × List UInt8) :=
  if l.takeWhile isDB = [] ∨ 15 < (l.takeWhile isDB).length then none
  else some (valT (l.takeWhile isDB), (l.dropWhile isDB).takeWhile (fun b => !isDB b), (l.dropWhile isDB).dropWhile (fun b => !isDB b))
def unitIx (nm : List UInt8) : Option Nat := unitsL.findIdx? (fun u => u.1 == nm)
def sizeU (j : Nat) : Nat := (unitsL[j]?.getD ([], 1)).2
def nameU (j : Nat) : List UInt8 := (unitsL[j]?.getD ([], 1)).1
/-- What has been summed up; none: it is too great. -/
def addP (st : Option Nat) (n m : Nat) : Option Nat := match st with
  | none => none
  | some t => if 9007199254740992 < t + n * m then none else some (t + n * m)
def endP : Option Nat → Int × Int
  | none => (0, 9)
  | some t => (t, 0)
def durP : Nat → List UInt8 → Nat → Option Nat → Int × Int
  | 0, _, _, _ => (0, 8)
  | f + 1, l, free, st =>
    if l = [] then endP st else match cutP l with
      | none => (0, 8)
      | some (n, nm, r) => match unitIx nm with
        | none => (0, 8)
        | some j => if j < free then (0, 8) else durP f r (j + 1) (addP st n (sizeU j))
def durR (l : List UInt8) : Int × Int := if l = [48] then (0, 0) else if l = [] then (0, 8) else durP (l.length + 1) l 0 (some 0)
/-- As the document goes. -/
def docP : Nat → List UInt8 → Nat → Option Nat → Int × Int
  | 0, _, _, _ => (0, 8)
  | f + 1, l, next, st =>
    if l.takeWhile isDB = [] ∨ 15 < (l.takeWhile isDB).length then (0, 8) else
      match unitIx ((l.dropWhile isDB).takeWhile isLB) with
        | none => (0, 8)
        | some j => if j < next then (0, 8) else
          if (l.dropWhile isDB).dropWhile isLB = [] then endP (addP st (valT (l.takeWhile isDB)) (sizeU j))
          else docP f ((l.dropWhile isDB).dropWhile isLB) (j + 1) (addP st (valT (l.takeWhile isDB)) (sizeU j))

theorem unitIx_name {nm : List UInt8} {j : Nat} (h : unitIx nm = some j) : j < 7 ∧ nm = nameU j := by
  unfold unitIx at h
  rw [List.findIdx?_eq_some_iff_getElem] at h
  obtain ⟨h1, h2, _⟩ := h
  have h1' : j < 7 := h1
  refine ⟨h1', ?_⟩
  unfold nameU
  rw [List.getElem?_eq_getElem h1]
  exact (eq_of_beq h2).symm
theorem unitIx_at {j : Nat} (h : j < 7) : unitIx (nameU j) = some j := by
  rcases (show j = 0 ∨ j = 1 ∨ j = 2 ∨ j = 3 ∨ j = 4 ∨ j = 5 ∨ j = 6 by omega) with rfl | rfl | rfl | rfl | rfl | rfl | rfl <;> rfl
theorem nameU_let {j : Nat} (h : j < 7) : ∀ b ∈ nameU j, isLB b = true := by
  rcases (show j = 0 ∨ j = 1 ∨ j = 2 ∨ j = 3 ∨ j = 4 ∨ j = 5 ∨ j = 6 by omega) with rfl | rfl | rfl | rfl | rfl | rfl | rfl <;> decide
theorem nameU_ne {j : Nat} (h : j < 7) : nameU j ≠ [] := by
  rcases (show j = 0 ∨ j = 1 ∨ j = 2 ∨ j = 3 ∨ j = 4 ∨ j = 5 ∨ j = 6 by omega) with rfl | rfl | rfl | rfl | rfl | rfl | rfl <;> decide
theorem let_not_digit {b : UInt8} (h : isLB b = true) : isDB b = false := by
  unfold isLB at h
  unfold isDB
  simp at h ⊢
  omega
theorem tw_append {p : UInt8 → Bool} : ∀ (a r : List UInt8), (∀ b ∈ a, p b = true) → (∀ c t, r = c :: t → p c = false) → (a ++ r).takeWhile p = a ∧ (a ++ r).dropWhile p = r
  | [], r, _, h => by
    cases r with
    | nil => simp
    | cons c t => simp [h c t rfl]
  | x :: a, r, ha, h => by
    obtain ⟨h1, h2⟩ := tw_append a r (fun b hb => ha b (by simp [hb])) h
    simp [ha x (by simp), h1, h2]
theorem dw_head {p : UInt8 → Bool} : ∀ (l : List UInt8) (c : UInt8) (t : List UInt8), l.dropWhile p = c :: t → p c = false
  | [], c, t, h => by simp at h
  | x :: l, c, t, h => by
    by_cases hx : p x = true
    · rw [List.dropWhile_cons_of_pos hx] at h
      exact dw_head l c t h
    · rw [List.dropWhile_cons_of_neg hx] at h
      obtain ⟨rfl, _⟩ := List.cons.inj h
      simpa using hx
theorem tw_all {p : UInt8 → Bool} (l : List UInt8) : ∀ b ∈ l.takeWhile p, p b = true := fun b hb => by
  induction l with
  | nil => simp at hb
  | cons x t ih =>
    by_cases hx : p x = true
    · rw [List.takeWhile_cons_of_pos hx] at hb
      rcases List.mem_cons.1 hb with rfl | h
      · exact hx
      · exact ih h
    · rw [List.takeWhile_cons_of_neg hx] at hb
      simp at hb
theorem dw_len {p : UInt8 → Bool} (l : List UInt8) : (l.dropWhile p).length ≤ l.length := by
  have h := congrArg List.length (List.takeWhile_append_dropWhile (p := p) (l := l))
  rw [List.length_append] at h
  omega
/-- The document goes as the program goes. -/
theorem doc_dur : ∀ (f : Nat) (l : List UInt8) (next : Nat) (st : Option Nat), l ≠ [] → l.length < f → docP f l next st = durP f l next st
  | 0, _, _, _, _, hf => by omega
  | f + 1, l, next, st, hne, hf => by
    rw [docP, durP, if_neg hne]
    unfold cutP
    by_cases hb : l.takeWhile isDB = [] ∨ 15 < (l.takeWhile isDB).length
    · rw [if_pos hb, if_pos hb]
    · rw [if_neg hb, if_neg hb]
      dsimp only
      have hd0 : l.takeWhile isDB ≠ [] := fun e => hb (Or.inl e)
      have hlen := congrArg List.length (List.takeWhile_append_dropWhile (p := isDB) (l := l))
      rw [List.length_append] at hlen
      have hpos : 0 < (l.takeWhile isDB).length := List.length_pos_iff.2 hd0
      generalize valT (l.takeWhile isDB) = N
      generalize hr : l.dropWhile isDB = r at hlen ⊢
      have hj := List.takeWhile_append_dropWhile (p := fun b => !isDB b) (l := r)
      have hj2 := List.takeWhile_append_dropWhile (p := isLB) (l := r)
      have hhead : ∀ c t, r.dropWhile (fun b => !isDB b) = c :: t → isLB c = false := fun c t h => by
        have := dw_head r c t h
        cases hl : isLB c with
        | false => rfl
        | true => rw [let_not_digit hl] at this; simp at this
      cases hx : unitIx (r.takeWhile fun b => !isDB b) with
      | some j =>
        obtain ⟨hj7, hnm⟩ := unitIx_name hx
        have hlet : ∀ b ∈ r.takeWhile (fun b => !isDB b), isLB b = true := by rw [hnm]; exact nameU_let hj7
        obtain ⟨e1, e2⟩ := tw_append (p := isLB) _ _ hlet hhead
        rw [hj] at e1 e2
        rw [e1, e2, hx]
        dsimp only
        by_cases hlt : j < next
        · rw [if_pos hlt, if_pos hlt]
        · rw [if_neg hlt, if_neg hlt]
          by_cases hr0 : r.dropWhile (fun b => !isDB b) = []
          · rw [if_pos hr0, hr0]
            cases f with
            | zero => omega
            | succ f => rw [durP, if_pos rfl]
          · rw [if_neg hr0]
            have := dw_len (p := fun b => !isDB b) r
            exact doc_dur f _ _ _ hr0 (by omega)
      | none =>
        dsimp only
        cases hy : unitIx (r.takeWhile isLB) with
        | none => rfl
        | some j =>
          dsimp only
          by_cases hlt : j < next
          · rw [if_pos hlt]
          · rw [if_neg hlt]
            have hlet := tw_all (p := isLB) r
            have key : ∀ c t, r.dropWhile isLB = c :: t → isDB c = false := fun c t h => by
              cases hc : isDB c with
              | false => rfl
              | true =>
                obtain ⟨e1, _⟩ := tw_append (p := fun b => !isDB b) (r.takeWhile isLB) (r.dropWhile isLB) (fun b hb => by simp [let_not_digit (hlet b hb)]) (fun c' t' h' => by rw [h] at h'; obtain ⟨rfl, _⟩ := List.cons.inj h'; simp [hc])
                rw [hj2] at e1
                rw [e1, hy] at hx
                cases hx
            cases hd : r.dropWhile isLB with
            | nil =>
              exfalso
              obtain ⟨e1, _⟩ := tw_append (p := fun b => !isDB b) (r.takeWhile isLB) (r.dropWhile isLB) (fun b hb => by simp [let_not_digit (hlet b hb)]) (fun c' t' h' => by rw [hd] at h'; cases h')
              rw [hj2] at e1
              rw [e1, hy] at hx
              cases hx
            | cons c t =>
              rw [if_neg (by simp)]
              cases f with
              | zero => rfl
              | succ f =>
                rw [docP, if_pos (Or.inl ?_)]
                rw [List.takeWhile_cons_of_neg (by simp [key c t hd])]
/-- The parts of a duration, from some unit on. -/
def durFrom : List (List UInt8 × Nat) → Nat → List UInt8
  | [], _ => []
  | u :: us, m => (if 0 < m / u.2 then Lib.decDigits (m / u.2) ++ u.1 else []) ++ durFrom us (m % u.2)
theorem durFold : ∀ (us : List (List UInt8 × Nat)) (a : List UInt8) (m : Nat), (us.foldl (fun s u => durS u s) (a, m)).1 = a ++ durFrom us m
  | [], a, m => by simp [durFrom]
  | u :: us, a, m => by
    rw [List.foldl_cons]
    show (us.foldl (fun s u => durS u s) (a ++ _, m % u.2)).1 = _
    rw [durFold us, durFrom, List.append_assoc]
theorem durK_from (n : Nat) : (durK n 7).1 = durFrom unitsL n := by
  unfold durK
  rw [List.take_of_length_le (by decide), durFold]
  simp
theorem durFrom_head : ∀ (us : List (List UInt8 × Nat)) (m : Nat) (c : UInt8) (t : List UInt8), durFrom us m = c :: t → isDB c = true
  | [], m, c, t, h => by cases h
  | u :: us, m, c, t, h => by
    rw [durFrom] at h
    by_cases hp : 0 < m / u.2
    · rw [if_pos hp] at h
      obtain ⟨i1, i2, i3⟩ := dec_val (m / u.2) (m / u.2) (Nat.le_refl _)
      cases hd : Lib.decDigits (m / u.2) with
      | nil => exact absurd hd i2
      | cons x r =>
        rw [hd] at h
        simp at h
        rw [← h.1]
        exact (isDB_iff x).2 (i1 x (by rw [hd]; simp))
    · rw [if_neg hp] at h
      exact durFrom_head us _ c t (by simpa using h)
/-- What is written of a duration is read as that duration. -/
theorem dur_read : ∀ (d : Nat) (f j free t m : Nat), d = 7 - j → j ≤ 7 → free ≤ j → (durFrom (unitsL.drop j) m).length < f → t + m ≤ 9007199254740992 → (∀ _ : j < 7, m / sizeU j < 1000000000000000) → (j = 7 → m = 0) → durP f (durFrom (unitsL.drop j) m) free (some t) = ((((t + m : Nat)) : Int), (0 : Int))
  | 0, f, j, free, t, m, hd, hj, hfree, hf, hle, hb, h7 => by
    have hj7 : j = 7 := by omega
    subst hj7
    have hm := h7 rfl
    subst hm
    rw [show unitsL.drop 7 = [] from rfl, durFrom] at hf ⊢
    cases f with
    | zero => omega
    | succ f => rw [durP, if_pos rfl]; rfl
  | d + 1, f, j, free, t, m, hd, hj, hfree, hf, hle, hb, h7 => by
    have hj7 : j < 7 := by omega
    have hdr : unitsL.drop j = (nameU j, sizeU j) :: unitsL.drop (j + 1) := by
      rw [List.drop_eq_getElem_cons (show j < unitsL.length from hj7)]
      unfold nameU sizeU
      rw [List.getElem?_eq_getElem (show j < unitsL.length from hj7)]
      rfl
    rw [hdr, durFrom] at hf ⊢
    dsimp only at hf ⊢
    have hbound : ∀ hj : j + 1 < 7, m % sizeU j / sizeU (j + 1) < 1000000000000000 := fun hj' => by
      have : ∀ j, j + 1 < 7 → 0 < sizeU j ∧ sizeU j ≤ 1000000000000000 * sizeU (j + 1) ∧ 0 < sizeU (j + 1) := fun j hj => by
        rcases (show j = 0 ∨ j = 1 ∨ j = 2 ∨ j = 3 ∨ j = 4 ∨ j = 5 by omega) with rfl | rfl | rfl | rfl | rfl | rfl <;> decide
      obtain ⟨q1, q2, q3⟩ := this j hj'
      have q4 := Nat.mod_lt m q1
      exact (Nat.div_lt_iff_lt_mul q3).2 (by omega)
    have hlast : j + 1 = 7 → m % sizeU j = 0 := fun e => by
      have : j = 6 := by omega
      subst this
      exact Nat.mod_one m
    have hmm : m / sizeU j * sizeU j + m % sizeU j = m := by rw [Nat.mul_comm]; exact Nat.div_add_mod m (sizeU j)
    by_cases hp : 0 < m / sizeU j
    · rw [if_pos hp] at hf ⊢
      obtain ⟨i1, i2, i3⟩ := dec_val (m / sizeU j) (m / sizeU j) (Nat.le_refl _)
      have hlen : (Lib.decDigits (m / sizeU j)).length ≤ 15 := dec_lenk 14 _ (hb hj7)
      have hhd : ∀ c r, nameU j ++ durFrom (unitsL.drop (j + 1)) (m % sizeU j) = c :: r → isDB c = false := fun c r h => by
        cases hn : nameU j with
        | nil => exact absurd hn (nameU_ne hj7)
        | cons x y =>
          rw [hn] at h
          simp at h
          rw [← h.1]
          exact let_not_digit (nameU_let hj7 x (by rw [hn]; simp))
      obtain ⟨e1, e2⟩ := tw_append (p := isDB) (Lib.decDigits (m / sizeU j)) (nameU j ++ durFrom (unitsL.drop (j + 1)) (m % sizeU j)) (fun b hb => (isDB_iff b).2 (i1 b hb)) hhd
      obtain ⟨e3, e4⟩ := tw_append (p := fun b => !isDB b) (nameU j) (durFrom (unitsL.drop (j + 1)) (m % sizeU j)) (fun b hb => by simp [let_not_digit (nameU_let hj7 b hb)]) (fun c r h => by simp [durFrom_head _ _ c r h])
      rw [List.append_assoc] at hf ⊢
      cases f with
      | zero => omega
      | succ f =>
        rw [durP, if_neg (by simp [i2])]
        have hcut : cutP (Lib.decDigits (m / sizeU j) ++ (nameU j ++ durFrom (unitsL.drop (j + 1)) (m % sizeU j))) = some (m / sizeU j, nameU j, durFrom (unitsL.drop (j + 1)) (m % sizeU j)) := by
          unfold cutP
          rw [e1, e2, e3, e4, if_neg (by rintro (h | h); exact i2 h; omega), i3]
        rw [hcut]
        dsimp only
        rw [unitIx_at hj7]
        dsimp only
        rw [if_neg (by omega)]
        have hadd : addP (some t) (m / sizeU j) (sizeU j) = some (t + m / sizeU j * sizeU j) := by
          show (if 9007199254740992 < t + m / sizeU j * sizeU j then none else some (t + m / sizeU j * sizeU j)) = _
          rw [if_neg (by omega)]
        rw [hadd, dur_read d f (j + 1) (j + 1) _ _ (by omega) (by omega) (Nat.le_refl _) (by have := List.length_pos_iff.2 i2; simp only [List.length_append] at hf; omega) (by omega) hbound hlast]
        congr 2
        omega
    · rw [if_neg hp] at hf ⊢
      rw [List.nil_append] at hf ⊢
      have h0 : m / sizeU j = 0 := Nat.eq_zero_of_not_pos hp
      rw [h0, Nat.zero_mul] at hmm
      rw [dur_read d f (j + 1) free t _ (by omega) (by omega) (by omega) hf (by omega) hbound hlast]
      congr 2
      omega
theorem durR_back (n : Nat) (h : n ≤ 9007199254740992) : durR (durT n) = ((n : Int), 0) := by
  by_cases h0 : n = 0
  · subst h0
    rfl
  · have key : ∀ f free, free ≤ 0 → (durFrom unitsL n).length < f → durP f (durFrom unitsL n) free (some 0) = ((n : Int), 0) := fun f free hfr hf => by
      have hh := dur_read 7 f 0 free 0 n rfl (by decide) hfr (by simpa using hf) (by omega) (fun _ => by
        show n / 31536000000 < _
        omega) (fun e => by omega)
      simpa using hh
    have e : durT n = durFrom unitsL n := by
      unfold durT
      rw [if_neg (by omega), if_neg (by omega), show ((n : Int)).natAbs = n by omega, durK_from, List.nil_append]
    rw [e]
    unfold durR
    have h1 : durFrom unitsL n ≠ [] := fun e1 => by
      have := key 1 0 (Nat.le_refl _) (by rw [e1]; decide)
      rw [e1] at this
      have h2 : (0 : Int) = n := congrArg Prod.fst this
      omega
    have h2 : durFrom unitsL n ≠ [48] := fun e1 => by
      have := key 2 0 (Nat.le_refl _) (by rw [e1]; decide)
      rw [e1] at this
      have h3 : (8 : Int) = 0 := congrArg Prod.snd this
      omega
    rw [if_neg h2, if_neg h1]
    exact key _ _ (Nat.le_refl _) (Nat.lt_succ_self _)
def dg (n : Nat) : UInt8 := UInt8.ofNat (48 + n)
def pad3 (r : Nat) : List UInt8 := [dg (r / 100), dg (r / 10 % 10), dg (r % 10)]
theorem dec_step {u : Nat} (h : ¬ u < 10) : Lib.decDigits u = Lib.decDigits (u / 10) ++ [dg (u % 10)] := by
  unfold dg
  rw [Lib.decDigits, dif_neg h]
theorem dec_one {u : Nat} (h : u < 10) : Lib.decDigits u = [dg u] := Lib.decDigits_one h
theorem dec_1000 {r : Nat} (h : r < 1000) : Lib.decDigits (1000 + r) = 49 :: pad3 r := by
  rw [dec_step (by omega), dec_step (show ¬ (1000 + r) / 10 < 10 by omega), dec_step (show ¬ (1000 + r) / 10 / 10 < 10 by omega), dec_one (show (1000 + r) / 10 / 10 / 10 < 10 by omega)]
  unfold pad3
  rw [show (1000 + r) / 10 / 10 / 10 = 1 by omega, show (1000 + r) / 10 / 10 % 10 = r / 100 by omega, show (1000 + r) / 10 % 10 = r / 10 % 10 by omega, show (1000 + r) % 10 = r % 10 by omega]
  rfl
/-- The digits behind the point, without noughts at the end. -/
def trim3 (r : Nat) : List UInt8 := if r % 100 = 0 then [dg (r / 100)] else if r % 10 = 0 then [dg (r / 100), dg (r / 10 % 10)] else pad3 r
def secT (ms : Int) : List UInt8 := (if ms < 0 then [45] else []) ++ Lib.decDigits (ms.natAbs / 1000) ++ (if ms.natAbs % 1000 = 0 then [] else 46 :: trim3 (ms.natAbs % 1000))
theorem dg_zero {n : Nat} (h : n < 10) : dg n = 48 ↔ n = 0 := by
  unfold dg
  rw [← UInt8.toNat_inj, UInt8.toNat_ofNat']
  show (48 + n) % 256 = 48 ↔ _
  omega
theorem trim_pad {r : Nat} (h0 : 0 < r) (h : r < 1000) : Lib.trimRightB (pad3 r) 48 = trim3 r := by
  unfold Lib.trimRightB trim3 pad3
  have e : ([dg (r / 100), dg (r / 10 % 10), dg (r % 10)] : List UInt8).reverse = [dg (r % 10), dg (r / 10 % 10), dg (r / 100)] := rfl
  rw [e]
  have k1 := dg_zero (show r % 10 < 10 by omega)
  have k2 := dg_zero (show r / 10 % 10 < 10 by omega)
  have k3 := dg_zero (show r / 100 < 10 by omega)
  by_cases h1 : r % 10 = 0
  · rw [List.dropWhile_cons_of_pos (by simpa using k1.2 h1)]
    by_cases h2 : r / 10 % 10 = 0
    · rw [List.dropWhile_cons_of_pos (by simpa using k2.2 h2), List.dropWhile_cons_of_neg (by simp; exact fun e => by have := k3.1 e; omega), if_pos (by omega)]
      rfl
    · rw [List.dropWhile_cons_of_neg (by simp; exact fun e => h2 (k2.1 e)), if_neg (by omega), if_pos h1]
      rfl
  · rw [List.dropWhile_cons_of_neg (by simp; exact fun e => h1 (k1.1 e)), if_neg (by omega), if_neg h1]
    rfl
end Go.Proofs.YtmlcilalmhpmiaaDoor
