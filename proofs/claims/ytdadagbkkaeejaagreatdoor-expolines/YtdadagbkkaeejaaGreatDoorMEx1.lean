/- Texts that belong together. -/
import Derived.Laws.Rows
import Derived.Test.YtdadagbkkaeejaaGreatDoorMEy0
import Derived.Handy
import Derived.Deep.Light
import Derived.LoopN
import Derived.Lib.ValidLaws
/- How a sample's line is gone through: blanks, names, quoted values: pure. -/
namespace Go.Proofs.YtdadagbkkaeejaaGreatDoor

def blB (c : UInt8) : Bool := c == 32 || c == 9
def letB (c : UInt8) : Bool := (97 ≤ c && c ≤ 122) || (65 ≤ c && c ≤ 90) || c == 95
def digB (c : UInt8) : Bool := 48 ≤ c && c ≤ 57

/-- The place behind a run of bytes of a kind. -/
def runP (p : UInt8 → Bool) (l : List UInt8) (i : Nat) : Nat := i + ((l.drop i).takeWhile p).length
theorem runP_step {p : UInt8 → Bool} {l : List UInt8} {i : Nat} (h : i < l.length) (hp : p l[i] = true) : runP p l (i + 1) = runP p l i := by
  unfold runP
  rw [List.drop_eq_getElem_cons h, List.takeWhile_cons, if_pos hp]
  simp
  omega
theorem runP_stop {p : UInt8 → Bool} {l : List UInt8} {i : Nat} (h : i < l.length) (hp : p l[i] = false) : runP p l i = i := by
  unfold runP
  rw [List.drop_eq_getElem_cons h, List.takeWhile_cons, if_neg (by rw [hp]; simp)]
  simp
theorem runP_end {p : UInt8 → Bool} {l : List UInt8} {i : Nat} (h : l.length ≤ i) : runP p l i = i := by
  unfold runP
  rw [List.drop_eq_nil_of_le h]
  simp
theorem runP_ge (p : UInt8 → Bool) (l : List UInt8) (i : Nat) : i ≤ runP p l i := Nat.le_add_right _ _
theorem runP_le {p : UInt8 → Bool} {l : List UInt8} {i : Nat} (h : i ≤ l.length) : runP p l i ≤ l.length := by
  unfold runP
  have h1 : ((l.drop i).takeWhile p).length ≤ (l.drop i).length := (List.takeWhile_sublist p).length_le
  rw [List.length_drop] at h1
  omega
theorem runP_not {p : UInt8 → Bool} {l : List UInt8} {i : Nat} (h : runP p l i < l.length) : p l[runP p l i] = false := by
  cases hp : p l[runP p l i] with
  | false => rfl
  | true =>
    exfalso
    have h1 := runP_step h hp
    have h2 : ∀ n i : Nat, l.length - i ≤ n → runP p l (runP p l i) = runP p l i := by
      intro n
      induction n with
      | zero => intro i hi; have := runP_end (p := p) (l := l) (i := i) (by omega); rw [this, this]
      | succ n ih =>
        intro i hi
        by_cases hl : i < l.length
        · cases hq : p l[i] with
          | false => have := runP_stop hl hq; rw [this, this]
          | true => have := runP_step hl hq; rw [← this]; exact ih (i + 1) (by omega)
        · have := runP_end (p := p) (l := l) (i := i) (by omega); rw [this, this]
    have h3 := h2 _ i (Nat.le_refl _)
    have h4 := runP_ge p l (runP p l i + 1)
    omega

def skipP (l : List UInt8) (i : Nat) : Nat := runP blB l i
def tokP (l : List UInt8) (i : Nat) : Nat := runP (fun c => !blB c) l i
def restB (co : Bool) (c : UInt8) : Bool := letB c || (c == 58 && co) || digB c
def startB (co : Bool) (c : UInt8) : Bool := letB c || (c == 58 && co)
/-- The place behind a name; the place itself, if none stands there. -/
def wordP (co : Bool) (l : List UInt8) (i : Nat) : Nat := if ((l[i]?).map (startB co)).getD false = true then runP (restB co) l i else i
theorem wordP_end {co : Bool} {l : List UInt8} {i : Nat} (h : l.length ≤ i) : wordP co l i = i := by
  unfold wordP
  rw [List.getElem?_eq_none h]
  rfl
theorem wordP_none {co : Bool} {l : List UInt8} {i : Nat} (h : i < l.length) (hs : startB co l[i] = false) : wordP co l i = i := by
  unfold wordP
  rw [List.getElem?_eq_getElem h, Option.map_some, Option.getD_some, if_neg (by rw [hs]; simp)]
theorem wordP_some {co : Bool} {l : List UInt8} {i : Nat} (h : i < l.length) (hs : startB co l[i] = true) : wordP co l i = runP (restB co) l (i + 1) := by
  unfold wordP
  rw [List.getElem?_eq_getElem h, Option.map_some, Option.getD_some, if_pos hs]
  refine (runP_step h ?_).symm
  unfold restB
  unfold startB at hs
  rw [hs]
  rfl
theorem wordP_ge (co : Bool) (l : List UInt8) (i : Nat) : i ≤ wordP co l i := by
  unfold wordP
  split
  · exact runP_ge _ _ _
  · exact Nat.le_refl _
theorem wordP_le {co : Bool} {l : List UInt8} {i : Nat} (h : i ≤ l.length) : wordP co l i ≤ l.length := by
  unfold wordP
  split
  · exact runP_le h
  · exact h
theorem skipP_ge (l : List UInt8) (i : Nat) : i ≤ skipP l i := runP_ge _ _ _
theorem skipP_le {l : List UInt8} {i : Nat} (h : i ≤ l.length) : skipP l i ≤ l.length := runP_le h
theorem tokP_ge (l : List UInt8) (i : Nat) : i ≤ tokP l i := runP_ge _ _ _
theorem tokP_le {l : List UInt8} {i : Nat} (h : i ≤ l.length) : tokP l i ≤ l.length := runP_le h

/-- What stands behind an opening quote, up to its end: where it is refused, or the bytes and the place behind. -/
def quotP : List UInt8 → Nat → List UInt8 → Nat ⊕ (List UInt8 × Nat)
  | [], p, _ => .inl p
  | c :: r, p, acc =>
    if c = 34 then .inr (acc, p + 1)
    else if c = 92 then
      match r with
      | [] => .inl (p + 1)
      | d :: r => if d = 92 ∨ d = 34 then quotP r (p + 2) (acc ++ [d]) else if d = 110 then quotP r (p + 2) (acc ++ [10]) else .inl (p + 1)
    else quotP r (p + 1) (acc ++ [c])

theorem quotP_place : ∀ (n : Nat) (l : List UInt8) (p : Nat) (acc : List UInt8), l.length ≤ n → (∀ q, quotP l p acc = .inl q → p ≤ q ∧ q ≤ p + l.length) ∧ (∀ v q, quotP l p acc = .inr (v, q) → p < q ∧ q ≤ p + l.length ∧ v.length + p < q + acc.length) := by
  intro n
  induction n with
  | zero =>
    intro l p acc hl
    obtain rfl : l = [] := List.eq_nil_of_length_eq_zero (by omega)
    refine ⟨fun q h => ?_, fun v q h => ?_⟩
    · simp [quotP] at h; simp [h]
    · simp [quotP] at h
  | succ n ih =>
    intro l p acc hl
    match l with
    | [] =>
      refine ⟨fun q h => ?_, fun v q h => ?_⟩
      · simp [quotP] at h; simp [h]
      · simp [quotP] at h
    | c :: r =>
      rw [quotP.eq_def]
      dsimp only
      simp only [List.length_cons] at hl
      by_cases h1 : c = 34
      · rw [if_pos h1]
        refine ⟨fun q h => (by cases h), fun v q h => ?_⟩
        simp at h
        obtain ⟨rfl, rfl⟩ := h
        simp
        omega
      · rw [if_neg h1]
        by_cases h2 : c = 92
        · rw [if_pos h2]
          match r with
          | [] =>
            refine ⟨fun q h => ?_, fun v q h => (by cases h)⟩
            simp at h
            subst h
            simp
          | d :: r =>
            simp only [List.length_cons] at hl
            dsimp only
            by_cases h3 : d = 92 ∨ d = 34
            · rw [if_pos h3]
              obtain ⟨i1, i2⟩ := ih r (p + 2) (acc ++ [d]) (by omega)
              refine ⟨fun q h => ?_, fun v q h => ?_⟩
              · have := i1 q h; simp only [List.length_cons]; omega
              · have := i2 v q h; simp only [List.length_cons, List.length_append, List.length_nil] at this ⊢; omega
            · rw [if_neg h3]
              by_cases h4 : d = 110
              · rw [if_pos h4]
                obtain ⟨i1, i2⟩ := ih r (p + 2) (acc ++ [10]) (by omega)
                refine ⟨fun q h => ?_, fun v q h => ?_⟩
                · have := i1 q h; simp only [List.length_cons]; omega
                · have := i2 v q h; simp only [List.length_cons, List.length_append, List.length_nil] at this ⊢; omega
              · rw [if_neg h4]
                refine ⟨fun q h => ?_, fun v q h => (by cases h)⟩
                simp at h
                subst h
                simp only [List.length_cons]
                omega
        · rw [if_neg h2]
          obtain ⟨i1, i2⟩ := ih r (p + 1) (acc ++ [c]) (by omega)
          refine ⟨fun q h => ?_, fun v q h => ?_⟩
          · have := i1 q h; simp only [List.length_cons]; omega
          · have := i2 v q h; simp only [List.length_cons, List.length_append, List.length_nil] at this ⊢; omega
end Go.Proofs.YtdadagbkkaeejaaGreatDoor

/- Which texts are UTF-8, by the document. -/
namespace Go.Proofs.YtdadagbkkaeejaaGreatDoor
open Go.RowKit

/-- How many bytes the character has that begins there; 0: none does. -/
def wN (n b0 b1 b2 b3 : Nat) : Nat := if b0 < 128 then 1 else (Lib.checkN n b1 b2 b3 (Lib.firstT b0 % 8) (Lib.accLo (Lib.firstT b0 / 16)) (Lib.accHi (Lib.firstT b0 / 16))).getD 0
def bAt (s : ByteArray) (i : Nat) : Nat := (s.data.toList.getD i 0).toNat
theorem bAt_eq {s : ByteArray} {i : Nat} (h : i < s.size) : s[i].toNat = bAt s i := by
  unfold bAt
  have : s.data.toList.getD i 0 = s[i] := by
    have h' : i < s.data.toList.length := by rw [Array.length_toList]; exact h
    rw [List.getD_eq_getElem?_getD, List.getElem?_eq_getElem h']
    rfl
  rw [this]
theorem bAt_lt (s : ByteArray) (i : Nat) : bAt s i < 256 := by unfold bAt; exact UInt8.toNat_lt _


theorem w1 {m b0 b1 b2 b3 : Nat} (h : b0 < 128) : wN m b0 b1 b2 b3 = 1 := by simp [wN, h]
theorem w0 {m b0 b1 b2 b3 : Nat} (h : 128 ≤ b0) (h' : b0 < 192 ∨ 248 ≤ b0) : wN m b0 b1 b2 b3 = 0 := by
  have hf : Lib.firstT b0 = 241 := by
    unfold Lib.firstT
    repeat' split
    all_goals first | rfl | omega
  simp [wN, show ¬ b0 < 128 by omega, hf, Lib.checkN]
theorem w2 {m b0 b1 b2 b3 : Nat} (h : 192 ≤ b0) (h' : b0 < 224) : wN m b0 b1 b2 b3 = if 2 ≤ m ∧ 128 ≤ b1 ∧ b1 < 192 ∧ 128 ≤ 64 * (b0 - 192) + (b1 - 128) then 2 else 0 := by
  by_cases c : b0 < 194
  · have hf : Lib.firstT b0 = 241 := by
      unfold Lib.firstT
      repeat' split
      all_goals first | rfl | omega
    simp [wN, show ¬ b0 < 128 by omega, hf, Lib.checkN]
    omega
  · have hf : Lib.firstT b0 = 2 := by
      unfold Lib.firstT
      repeat' split
      all_goals first | rfl | omega
    simp [wN, show ¬ b0 < 128 by omega, hf, Lib.checkN, Lib.accLo, Lib.accHi]
    repeat' split
    all_goals first | rfl | omega | (simp; omega)
theorem w3 {m b0 b1 b2 b3 : Nat} (h : 224 ≤ b0) (h' : b0 < 240) : wN m b0 b1 b2 b3 = if 3 ≤ m ∧ 128 ≤ b1 ∧ b1 < 192 ∧ 128 ≤ b2 ∧ b2 < 192 ∧ 2048 ≤ 64 * (64 * (b0 - 224) + (b1 - 128)) + (b2 - 128) ∧ ¬ (55296 ≤ 64 * (64 * (b0 - 224) + (b1 - 128)) + (b2 - 128) ∧ 64 * (64 * (b0 - 224) + (b1 - 128)) + (b2 - 128) ≤ 57343) then 3 else 0 := by
  have key : ∀ f lo hi : Nat, Lib.firstT b0 = f → f % 8 = 3 → Lib.accLo (f / 16) = lo → Lib.accHi (f / 16) = hi → wN m b0 b1 b2 b3 = if m < 3 ∨ b1 < lo ∨ hi < b1 ∨ b2 < 128 ∨ 191 < b2 then 0 else 3 := fun f lo hi e1 e2 e3 e4 => by
    simp only [wN, if_neg (show ¬ b0 < 128 by omega), e1, e2, e3, e4, Lib.checkN]
    simp only [show ¬ (3 = 2) by omega, if_false, if_true]
    split <;> rfl
  by_cases c : b0 = 224
  · rw [key 19 160 191 (by subst c; rfl) rfl rfl rfl]
    repeat' split
    all_goals first | rfl | (exfalso; omega)
  · by_cases c2 : b0 = 237
    · rw [key 35 128 159 (by subst c2; rfl) rfl rfl rfl]
      repeat' split
      all_goals first | rfl | (exfalso; omega)
    · have hf : Lib.firstT b0 = 3 := by
        unfold Lib.firstT
        repeat' split
        all_goals first | rfl | omega
      rw [key 3 128 191 hf rfl rfl rfl]
      repeat' split
      all_goals first | rfl | (exfalso; omega)
theorem w4 {m b0 b1 b2 b3 : Nat} (h : 240 ≤ b0) (h' : b0 < 248) : wN m b0 b1 b2 b3 = if 4 ≤ m ∧ 128 ≤ b1 ∧ b1 < 192 ∧ 128 ≤ b2 ∧ b2 < 192 ∧ 128 ≤ b3 ∧ b3 < 192 ∧ 65536 ≤ 64 * (64 * (64 * (b0 - 240) + (b1 - 128)) + (b2 - 128)) + (b3 - 128) ∧ 64 * (64 * (64 * (b0 - 240) + (b1 - 128)) + (b2 - 128)) + (b3 - 128) ≤ 1114111 then 4 else 0 := by
  have key : ∀ f lo hi : Nat, Lib.firstT b0 = f → f % 8 = 4 → Lib.accLo (f / 16) = lo → Lib.accHi (f / 16) = hi → wN m b0 b1 b2 b3 = if m < 4 ∨ b1 < lo ∨ hi < b1 ∨ b2 < 128 ∨ 191 < b2 ∨ b3 < 128 ∨ 191 < b3 then 0 else 4 := fun f lo hi e1 e2 e3 e4 => by
    simp only [wN, if_neg (show ¬ b0 < 128 by omega), e1, e2, e3, e4, Lib.checkN]
    simp only [show ¬ (4 = 2) by omega, show ¬ (4 = 3) by omega, if_false, if_true]
    split <;> rfl
  by_cases c : b0 = 240
  · rw [key 52 144 191 (by subst c; rfl) rfl rfl rfl]
    repeat' split
    all_goals first | rfl | (exfalso; omega)
  · by_cases c2 : b0 = 244
    · rw [key 68 128 143 (by subst c2; rfl) rfl rfl rfl]
      repeat' split
      all_goals first | rfl | (exfalso; omega)
    · by_cases c3 : b0 < 244
      · have hf : Lib.firstT b0 = 4 := by
          unfold Lib.firstT
          repeat' split
          all_goals first | rfl | omega
        rw [key 4 128 191 hf rfl rfl rfl]
        repeat' split
        all_goals first | rfl | (exfalso; omega)
      · have hf : Lib.firstT b0 = 241 := by
          unfold Lib.firstT
          repeat' split
          all_goals first | rfl | omega
        rw [if_neg (by omega)]
        simp [wN, show ¬ b0 < 128 by omega, hf, Lib.checkN]
theorem ret_int {a b : Int} (h : a = b) : Ending.returned (.int .i64 a) = .returned (.int .i64 b) := by rw [h]

end Go.Proofs.YtdadagbkkaeejaaGreatDoor

/- A character of three bytes. -/
namespace Go.Proofs.YtdadagbkkaeejaaGreatDoor
open Go.RowKit

end Go.Proofs.YtdadagbkkaeejaaGreatDoor

/- A character of four bytes. -/
namespace Go.Proofs.YtdadagbkkaeejaaGreatDoor
open Go.RowKit

end Go.Proofs.YtdadagbkkaeejaaGreatDoor

/- Which texts are UTF-8: the document's Valid. -/
namespace Go.Proofs.YtdadagbkkaeejaaGreatDoor
open Go.RowKit

def wAt (s : ByteArray) (i : Nat) : Nat := wN (s.size - i) (bAt s i) (bAt s (i + 1)) (bAt s (i + 2)) (bAt s (i + 3))

theorem size_data (s : ByteArray) : s.data.toList.length = s.size := by rw [Array.length_toList]; rfl
theorem bAt_drop (s : ByteArray) (i j : Nat) : ((s.data.toList.drop i).getD j 0).toNat = bAt s (i + j) := by
  unfold bAt
  rw [List.getD_eq_getElem?_getD, List.getD_eq_getElem?_getD, List.getElem?_drop]

theorem wN_le {m b0 b1 b2 b3 : Nat} (hm : 1 ≤ m) : wN m b0 b1 b2 b3 ≤ m := by
  unfold wN Lib.checkN
  repeat' split
  all_goals first | omega | (simp; omega) | simp

theorem valid_step (s : ByteArray) (i : Nat) (hi : i < s.size) : Lib.validD (s.data.toList.drop i) = if wAt s i = 0 then false else Lib.validD (s.data.toList.drop (i + wAt s i)) := by
  have hl : (s.data.toList.drop i).length = s.size - i := by rw [List.length_drop, size_data]
  have hne : s.data.toList.drop i ≠ [] := fun e => by rw [e] at hl; simp at hl; omega
  by_cases c1 : bAt s i < 128
  · have hw : wAt s i = 1 := w1 c1
    rw [hw, if_neg (by omega)]
    have h' : i < s.data.toList.length := by rw [size_data]; exact hi
    rw [List.drop_eq_getElem_cons h', Lib.validD_cons]
    have := bAt_eq hi
    rw [← this] at c1
    exact c1
  · have e0 : ((s.data.toList.drop i).getD 0 0).toNat = bAt s i := bAt_drop s i 0
    rw [Lib.validD_lead _ hne (by rw [e0]; omega), e0, bAt_drop, bAt_drop, bAt_drop, hl]
    have hw : wAt s i = (Lib.checkN (s.size - i) (bAt s (i + 1)) (bAt s (i + 2)) (bAt s (i + 3)) (Lib.firstT (bAt s i) % 8) (Lib.accLo (Lib.firstT (bAt s i) / 16)) (Lib.accHi (Lib.firstT (bAt s i) / 16))).getD 0 := by
      unfold wAt wN
      rw [if_neg c1]
    have hz : ∀ k, Lib.checkN (s.size - i) (bAt s (i + 1)) (bAt s (i + 2)) (bAt s (i + 3)) (Lib.firstT (bAt s i) % 8) (Lib.accLo (Lib.firstT (bAt s i) / 16)) (Lib.accHi (Lib.firstT (bAt s i) / 16)) = some k → k ≠ 0 := fun k => by
      unfold Lib.checkN
      repeat' split
      all_goals first | (intro h; cases h; omega) | (intro h; cases h)
    rw [hw]
    split
    · rename_i h
      rw [h]
      rfl
    · rename_i k h
      rw [h]
      simp [hz k h, List.drop_drop]

end Go.Proofs.YtdadagbkkaeejaaGreatDoor
