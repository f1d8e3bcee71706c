/- Texts that belong together. -/
import Derived.Test.YtmbkcmfcdjccoaaDoorMP47
/- What an expression means: pure. Which pieces of a text a part takes; the steps of a program take just these. -/
namespace Go.Proofs.YtmbkcmfcdjccoaaDoor
open Go.RowKit Go.Maps

/-- From a step and a place, within so many steps, yes is met at the end of the text. -/
def AccK (P : List Stp) (x : ByteArray) : Nat → Nat → Nat → Prop
  | 0, _, _ => False
  | k + 1, i, a => match P[i]? with
    | some (.take l neg) => a < x.size ∧ (memS l (charR x a).1 != neg) = true ∧ AccK P x k (i + 1) (a + (charR x a).2)
    | some .start => a = 0 ∧ AccK P x k (i + 1) a
    | some .stop => ¬ a < x.size ∧ AccK P x k (i + 1) a
    | some (.note _) => AccK P x k (i + 1) a
    | some (.fork p q) => AccK P x k p a ∨ AccK P x k q a
    | some (.jump p) => AccK P x k p a
    | some .yes => ¬ a < x.size
    | none => False
/-- So often, one behind the other. -/
def iterR (R : Nat → Nat → Prop) : Nat → Nat → Nat → Prop
  | 0, a, b => a = b
  | n + 1, a, b => ∃ c, R a c ∧ iterR R n c b
mutual
/-- A part takes the text from a place to a place. -/
def mN (x : ByteArray) : Nd → Nat → Nat → Prop
  | .take l neg, a, b => a < x.size ∧ (memS l (charR x a).1 != neg) = true ∧ b = a + (charR x a).2
  | .start, a, b => a = 0 ∧ b = a
  | .stop, a, b => ¬ a < x.size ∧ b = a
  | .row l, a, b => mNs x l a b
  | .either p q, a, b => mN x p a b ∨ mN x q a b
  | .group _ p, a, b => mN x p a b
  | .plus p _, a, b => ∃ n, iterR (mN x p) (n + 1) a b
  | .times p lo hi _, a, b => ∃ n, lo ≤ n ∧ (hi = -1 ∨ (n : Int) ≤ lo + (hi - lo).toNat) ∧ iterR (mN x p) n a b
def mNs (x : ByteArray) : List Nd → Nat → Nat → Prop
  | [], a, b => a = b
  | p :: t, a, b => ∃ c, mN x p a c ∧ mNs x t c b
end
theorem iterR_add {R : Nat → Nat → Prop} : ∀ {m n a b c : Nat}, iterR R m a b → iterR R n b c → iterR R (m + n) a c
  | 0, n, a, b, c, h, k => by
    have h : a = b := h
    subst h
    rw [Nat.zero_add]
    exact k
  | m + 1, n, a, b, c, ⟨d, h1, h2⟩, k => by
    rw [Nat.add_right_comm]
    exact ⟨d, h1, iterR_add h2 k⟩
theorem iterR_split {R : Nat → Nat → Prop} : ∀ {m n a c : Nat}, iterR R (m + n) a c → ∃ b, iterR R m a b ∧ iterR R n b c
  | 0, n, a, c, h => ⟨a, rfl, by rw [Nat.zero_add] at h; exact h⟩
  | m + 1, n, a, c, h => by
    rw [Nat.add_right_comm] at h
    obtain ⟨d, h1, h2⟩ := h
    obtain ⟨b, h3, h4⟩ := iterR_split h2
    exact ⟨b, ⟨d, h1, h3⟩, h4⟩
/-- A program has these steps at a place. -/
def CodeAt (P : List Stp) (p : Nat) (C : List Stp) : Prop := ∀ (i : Nat) (t : Stp), C[i]? = some t → P[p + i]? = some t
theorem CodeAt.left {P : List Stp} {p : Nat} {C D : List Stp} (h : CodeAt P p (C ++ D)) : CodeAt P p C := fun i t hi => h i t (by
  rw [List.getElem?_append_left (List.getElem?_eq_some_iff.1 hi).1]
  exact hi)
theorem CodeAt.right {P : List Stp} {p : Nat} {C D : List Stp} (h : CodeAt P p (C ++ D)) : CodeAt P (p + C.length) D := fun i t hi => by
  rw [Nat.add_assoc]
  exact h (C.length + i) t (by rw [List.getElem?_append_right (by omega)]; rw [show C.length + i - C.length = i by omega]; exact hi)
theorem CodeAt.head {P : List Stp} {p : Nat} {t : Stp} {D : List Stp} (h : CodeAt P p (t :: D)) : P[p]? = some t := h 0 t rfl
theorem CodeAt.tail {P : List Stp} {p : Nat} {t : Stp} {D : List Stp} (h : CodeAt P p (t :: D)) : CodeAt P (p + 1) D := fun i u hi => by
  rw [Nat.add_right_comm]
  exact h (i + 1) u hi
section
variable {P : List Stp} {x : ByteArray}
theorem acc_fork {lz : Bool} {k i a p q : Nat} (h : P[i]? = some (forkS lz p q)) : AccK P x (k + 1) i a ↔ AccK P x k p a ∨ AccK P x k q a := by
  rw [AccK, h]
  unfold forkS
  cases lz
  · exact Iff.rfl
  · exact Or.comm
theorem acc_jump {k i a p : Nat} (h : P[i]? = some (.jump p)) : AccK P x (k + 1) i a ↔ AccK P x k p a := by rw [AccK, h]
theorem acc_note {k i a n : Nat} (h : P[i]? = some (.note n)) : AccK P x (k + 1) i a ↔ AccK P x k (i + 1) a := by rw [AccK, h]
theorem acc_pos {k i a : Nat} (h : AccK P x k i a) : ∃ j, k = j + 1 := by
  cases k with
  | zero => exact h.elim
  | succ j => exact ⟨j, rfl⟩
/-- What is met through these steps is met behind them. -/
def SndS (P : List Stp) (x : ByteArray) (f : Nat → List Stp) (R : Nat → Nat → Prop) : Prop := ∀ p, CodeAt P p (f p) → ∀ k a, AccK P x k p a → ∃ b k', k' ≤ k ∧ R a b ∧ AccK P x k' (p + (f p).length) b
/-- What is met behind these steps is met through them. -/
def CmpS (P : List Stp) (x : ByteArray) (f : Nat → List Stp) (R : Nat → Nat → Prop) : Prop := ∀ p, CodeAt P p (f p) → ∀ a b, R a b → (∃ k, AccK P x k (p + (f p).length) b) → ∃ k, AccK P x k p a
variable {f : Nat → List Stp} {R : Nat → Nat → Prop}
theorem snd_copies (hf : SndS P x f R) : ∀ n, SndS P x (copiesS f n) (iterR R n)
  | 0, p, _, k, a, h => ⟨a, k, Nat.le_refl _, rfl, h⟩
  | n + 1, p, hc, k, a, h => by
    have hc : CodeAt P p (f p ++ copiesS f n (p + (f p).length)) := hc
    obtain ⟨b, k1, h1, h2, h3⟩ := hf p hc.left k a h
    obtain ⟨c, k2, h4, h5, h6⟩ := snd_copies hf n _ hc.right k1 b h3
    refine ⟨c, k2, Nat.le_trans h4 h1, ⟨b, h2, h5⟩, ?_⟩
    rw [show (copiesS f (n + 1) p).length = (f p).length + (copiesS f n (p + (f p).length)).length by rw [copiesS, List.length_append], ← Nat.add_assoc]
    exact h6
theorem cmp_copies (hf : CmpS P x f R) : ∀ n, CmpS P x (copiesS f n) (iterR R n)
  | 0, p, _, a, b, h, hk => by
    have h : a = b := h
    subst h
    exact hk
  | n + 1, p, hc, a, b, ⟨c, h1, h2⟩, hk => by
    have hc : CodeAt P p (f p ++ copiesS f n (p + (f p).length)) := hc
    rw [show (copiesS f (n + 1) p).length = (f p).length + (copiesS f n (p + (f p).length)).length by rw [copiesS, List.length_append], ← Nat.add_assoc] at hk
    exact hf p hc.left a c h1 (cmp_copies hf n _ hc.right c b h2 hk)
theorem opts_length (t u : Nat → Stp) : ∀ n p, (optsS f t n p).length = (optsS f u n p).length
  | 0, p => rfl
  | n + 1, p => by
    rw [optsS, optsS, List.length_cons, List.length_cons, List.length_append, List.length_append, opts_length t u n]
theorem opts_len (t : Nat → Stp) (n p : Nat) : (optsS f t (n + 1) p).length = 1 + (f (p + 1)).length + (optsS f t n (p + 1 + (f (p + 1)).length)).length := by
  rw [optsS, List.length_cons, List.length_append]
  omega
theorem snd_opts {lz : Bool} {E : Nat} (hf : SndS P x f R) : ∀ n p, CodeAt P p (optsS f (fun q => forkS lz (q + 1) E) n p) → E = p + (optsS f (fun q => forkS lz (q + 1) E) n p).length → ∀ k a, AccK P x k p a → ∃ b k', k' ≤ k ∧ (∃ m, m ≤ n ∧ iterR R m a b) ∧ AccK P x k' E b
  | 0, p, _, he, k, a, h => by
    have he : E = p := he
    exact ⟨a, k, Nat.le_refl _, ⟨0, Nat.le_refl _, rfl⟩, by rw [he]; exact h⟩
  | n + 1, p, hc, he, k, a, h => by
    obtain ⟨j, rfl⟩ := acc_pos h
    have hc : CodeAt P p (forkS lz (p + 1) E :: (f (p + 1) ++ optsS f (fun q => forkS lz (q + 1) E) n (p + 1 + (f (p + 1)).length))) := hc
    rw [opts_len] at he
    rcases (acc_fork hc.head).1 h with h | h
    · obtain ⟨b, k1, h1, h2, h3⟩ := hf (p + 1) hc.tail.left j a h
      obtain ⟨c, k2, h4, ⟨m, h5, h6⟩, h7⟩ := snd_opts hf n _ hc.tail.right (by omega) k1 b h3
      exact ⟨c, k2, by omega, ⟨m + 1, by omega, b, h2, h6⟩, h7⟩
    · exact ⟨a, j, by omega, ⟨0, Nat.zero_le _, rfl⟩, h⟩
theorem cmp_opts {lz : Bool} {E : Nat} (hf : CmpS P x f R) : ∀ n p, CodeAt P p (optsS f (fun q => forkS lz (q + 1) E) n p) → E = p + (optsS f (fun q => forkS lz (q + 1) E) n p).length → ∀ m a b, m ≤ n → iterR R m a b → (∃ k, AccK P x k E b) → ∃ k, AccK P x k p a
  | 0, p, _, he, m, a, b, hm, h, hk => by
    have he : E = p := he
    obtain rfl : m = 0 := by omega
    have h : a = b := h
    rw [h, ← he]
    exact hk
  | n + 1, p, hc, he, m, a, b, hm, h, hk => by
    have hc : CodeAt P p (forkS lz (p + 1) E :: (f (p + 1) ++ optsS f (fun q => forkS lz (q + 1) E) n (p + 1 + (f (p + 1)).length))) := hc
    rw [opts_len] at he
    cases m with
    | zero =>
      have h : a = b := h
      rw [h]
      obtain ⟨k, hk⟩ := hk
      exact ⟨k + 1, (acc_fork hc.head).2 (Or.inr hk)⟩
    | succ m =>
      obtain ⟨c, h1, h2⟩ := h
      obtain ⟨k, hk⟩ := hf (p + 1) hc.tail.left a c h1 (cmp_opts hf n _ hc.tail.right (by omega) m c b (by omega) h2 hk)
      exact ⟨k + 1, (acc_fork hc.head).2 (Or.inl hk)⟩
theorem snd_star {lz : Bool} {q : Nat} (hf : SndS P x f R) (hc : CodeAt P q (forkS lz (q + 1) (q + 2 + (f (q + 1)).length) :: (f (q + 1) ++ [.jump q]))) : ∀ n k a, k ≤ n → AccK P x k q a → ∃ b k', k' ≤ k ∧ (∃ m, iterR R m a b) ∧ AccK P x k' (q + 2 + (f (q + 1)).length) b
  | 0, k, a, hk, h => by
    obtain rfl : k = 0 := by omega
    exact h.elim
  | n + 1, k, a, hk, h => by
    obtain ⟨j, rfl⟩ := acc_pos h
    rcases (acc_fork hc.head).1 h with h | h
    · obtain ⟨b, k1, h1, h2, h3⟩ := hf (q + 1) hc.tail.left j a h
      obtain ⟨i, rfl⟩ := acc_pos h3
      have h3 := (acc_jump hc.tail.right.head).1 h3
      obtain ⟨c, k2, h4, ⟨m, h5⟩, h6⟩ := snd_star hf hc n i b (by omega) h3
      exact ⟨c, k2, by omega, ⟨m + 1, b, h2, h5⟩, h6⟩
    · exact ⟨a, j, by omega, ⟨0, rfl⟩, h⟩
theorem cmp_star {lz : Bool} {q : Nat} (hf : CmpS P x f R) (hc : CodeAt P q (forkS lz (q + 1) (q + 2 + (f (q + 1)).length) :: (f (q + 1) ++ [.jump q]))) : ∀ m a b, iterR R m a b → (∃ k, AccK P x k (q + 2 + (f (q + 1)).length) b) → ∃ k, AccK P x k q a
  | 0, a, b, h, ⟨k, hk⟩ => by
    have h : a = b := h
    rw [h]
    exact ⟨k + 1, (acc_fork hc.head).2 (Or.inr hk)⟩
  | m + 1, a, b, ⟨c, h1, h2⟩, hk => by
    obtain ⟨k, hk⟩ := cmp_star hf hc m c b h2 hk
    obtain ⟨j, hj⟩ := hf (q + 1) hc.tail.left a c h1 ⟨k + 1, (acc_jump hc.tail.right.head).2 hk⟩
    exact ⟨j + 1, (acc_fork hc.head).2 (Or.inl hj)⟩
theorem snd_plus {lz : Bool} {p E : Nat} (hf : SndS P x f R) (h1 : CodeAt P p (f p)) (h2 : P[p + (f p).length]? = some (forkS lz p E)) : ∀ n k a, k ≤ n → AccK P x k p a → ∃ b k', k' ≤ k ∧ (∃ m, iterR R (m + 1) a b) ∧ AccK P x k' E b
  | 0, k, a, hk, h => by
    obtain rfl : k = 0 := by omega
    exact h.elim
  | n + 1, k, a, hk, h => by
    obtain ⟨b, k1, e1, e2, e3⟩ := hf p h1 k a h
    obtain ⟨i, rfl⟩ := acc_pos e3
    rcases (acc_fork h2).1 e3 with h | h
    · obtain ⟨c, k2, e4, ⟨m, e5⟩, e6⟩ := snd_plus hf h1 h2 n i b (by omega) h
      exact ⟨c, k2, by omega, ⟨m + 1, b, e2, e5⟩, e6⟩
    · exact ⟨b, i, by omega, ⟨0, b, e2, rfl⟩, h⟩
theorem cmp_plus {lz : Bool} {p E : Nat} (hf : CmpS P x f R) (h1 : CodeAt P p (f p)) (h2 : P[p + (f p).length]? = some (forkS lz p E)) : ∀ m a b, iterR R (m + 1) a b → (∃ k, AccK P x k E b) → ∃ k, AccK P x k p a
  | 0, a, b, ⟨c, e1, e2⟩, ⟨k, hk⟩ => by
    have e2 : c = b := e2
    rw [← e2] at hk
    exact hf p h1 a c e1 ⟨k + 1, (acc_fork h2).2 (Or.inr hk)⟩
  | m + 1, a, b, ⟨c, e1, e2⟩, hk => by
    obtain ⟨k, hk⟩ := cmp_plus hf h1 h2 m c b e2 hk
    exact hf p h1 a c e1 ⟨k + 1, (acc_fork h2).2 (Or.inl hk)⟩
end
end Go.Proofs.YtmbkcmfcdjccoaaDoor

/- The steps of a part take just what the part takes: pure. -/
namespace Go.Proofs.YtmbkcmfcdjccoaaDoor
open Go.RowKit Go.Maps

section
variable {P : List Stp} {x : ByteArray}
theorem tail_star (f : Nat → List Stp) (lo : Nat) (lz : Bool) (q : Nat) : tailS f lo (-1) lz q = forkS lz (q + 1) (q + 2 + (f (q + 1)).length) :: (f (q + 1) ++ [.jump q]) := by
  unfold tailS
  rw [if_pos rfl]
theorem tail_opts (f : Nat → List Stp) (lo : Nat) {hi : Int} (h : hi ≠ -1) (lz : Bool) (q : Nat) : ∃ E, tailS f lo hi lz q = optsS f (fun p => forkS lz (p + 1) E) (hi - lo).toNat q ∧ E = q + (optsS f (fun p => forkS lz (p + 1) E) (hi - lo).toNat q).length := by
  refine ⟨q + (rawS f (hi - lo).toNat q).length, ?_, ?_⟩
  · unfold tailS
    rw [if_neg h]
  · unfold rawS
    exact congrArg (q + ·) (opts_length _ _ _ _)
theorem snd_times {f : Nat → List Stp} {R : Nat → Nat → Prop} (hf : SndS P x f R) (lo : Nat) (hi : Int) (lz : Bool) : SndS P x (fun p => copiesS f lo p ++ tailS f lo hi lz (p + (copiesS f lo p).length)) (fun a b => ∃ n, lo ≤ n ∧ (hi = -1 ∨ (n : Int) ≤ lo + (hi - lo).toNat) ∧ iterR R n a b) := by
  intro p hc k a h
  dsimp only at hc ⊢
  obtain ⟨b, k1, h1, h2, h3⟩ := snd_copies hf lo p hc.left k a h
  have hr := hc.right
  rw [List.length_append, ← Nat.add_assoc]
  generalize hq : p + (copiesS f lo p).length = q at *
  by_cases hh : hi = -1
  · subst hh
    rw [tail_star] at hr ⊢
    obtain ⟨c, k2, h4, ⟨m, h5⟩, h6⟩ := snd_star hf hr k1 k1 b (Nat.le_refl _) h3
    refine ⟨c, k2, by omega, ⟨lo + m, by omega, Or.inl rfl, iterR_add h2 h5⟩, ?_⟩
    rw [List.length_cons, List.length_append, show q + ((f (q + 1)).length + [Stp.jump q].length + 1) = q + 2 + (f (q + 1)).length by simp; omega]
    exact h6
  · obtain ⟨E, e1, e2⟩ := tail_opts f lo hh lz q
    rw [e1] at hr ⊢
    obtain ⟨c, k2, h4, ⟨m, h5, h6⟩, h7⟩ := snd_opts hf _ q hr e2 k1 b h3
    exact ⟨c, k2, by omega, ⟨lo + m, by omega, Or.inr (by omega), iterR_add h2 h6⟩, by rw [← e2]; exact h7⟩
theorem cmp_times {f : Nat → List Stp} {R : Nat → Nat → Prop} (hf : CmpS P x f R) (lo : Nat) (hi : Int) (lz : Bool) : CmpS P x (fun p => copiesS f lo p ++ tailS f lo hi lz (p + (copiesS f lo p).length)) (fun a b => ∃ n, lo ≤ n ∧ (hi = -1 ∨ (n : Int) ≤ lo + (hi - lo).toNat) ∧ iterR R n a b) := by
  intro p hc a b hR hk
  dsimp only at hc hk
  obtain ⟨n, h1, h2, h3⟩ := hR
  obtain ⟨m, rfl⟩ : ∃ m, n = lo + m := ⟨n - lo, by omega⟩
  obtain ⟨c, h4, h5⟩ := iterR_split h3
  have hr := hc.right
  rw [List.length_append, ← Nat.add_assoc] at hk
  refine cmp_copies hf lo p hc.left a c h4 ?_
  generalize hq : p + (copiesS f lo p).length = q at *
  by_cases hh : hi = -1
  · subst hh
    rw [tail_star] at hr hk
    rw [List.length_cons, List.length_append, show q + ((f (q + 1)).length + [Stp.jump q].length + 1) = q + 2 + (f (q + 1)).length by simp; omega] at hk
    exact cmp_star hf hr m c b h5 hk
  · obtain ⟨E, e1, e2⟩ := tail_opts f lo hh lz q
    rw [e1] at hr hk
    rw [← e2] at hk
    exact cmp_opts hf _ q hr e2 m c b (by omega) h5 hk
mutual
theorem nd_snd : ∀ (n : Nd), SndS P x (emitN n) (mN x n)
  | .take l neg => fun p hc k a h => by
    obtain ⟨j, rfl⟩ := acc_pos h
    have hc : CodeAt P p [.take l neg] := by rw [emitN] at hc; exact hc
    rw [AccK, hc.head] at h
    obtain ⟨h1, h2, h3⟩ := h
    exact ⟨_, j, by omega, ⟨h1, h2, rfl⟩, by rw [emitN]; exact h3⟩
  | .start => fun p hc k a h => by
    obtain ⟨j, rfl⟩ := acc_pos h
    have hc : CodeAt P p [.start] := by rw [emitN] at hc; exact hc
    rw [AccK, hc.head] at h
    exact ⟨a, j, by omega, ⟨h.1, rfl⟩, by rw [emitN]; exact h.2⟩
  | .stop => fun p hc k a h => by
    obtain ⟨j, rfl⟩ := acc_pos h
    have hc : CodeAt P p [.stop] := by rw [emitN] at hc; exact hc
    rw [AccK, hc.head] at h
    exact ⟨a, j, by omega, ⟨h.1, rfl⟩, by rw [emitN]; exact h.2⟩
  | .row l => fun p hc k a h => by
    rw [emitN] at hc ⊢
    obtain ⟨b, k1, h1, h2, h3⟩ := nds_snd l p hc k a h
    exact ⟨b, k1, h1, by rw [mN]; exact h2, h3⟩
  | .either u v => fun p hc k a h => by
    obtain ⟨j, rfl⟩ := acc_pos h
    have hu := nd_snd u
    have hv := nd_snd v
    rw [emitN] at hc ⊢
    rw [List.length_cons, List.length_append, List.length_cons]
    rcases (acc_fork (lz := false) hc.head).1 h with h | h
    · obtain ⟨b, k1, h1, h2, h3⟩ := hu (p + 1) hc.tail.left j a h
      obtain ⟨i, rfl⟩ := acc_pos h3
      have h3 := (acc_jump hc.tail.right.head).1 h3
      refine ⟨b, i, by omega, by rw [mN]; exact Or.inl h2, ?_⟩
      generalize (emitN u (p + 1)).length = lu at *
      rw [show p + (lu + ((emitN v (p + 2 + lu)).length + 1) + 1) = p + 2 + lu + (emitN v (p + 2 + lu)).length by omega]
      exact h3
    · have hr := hc.tail.right.tail
      generalize (emitN u (p + 1)).length = lu at *
      rw [show p + 1 + lu + 1 = p + 2 + lu by omega] at hr
      obtain ⟨b, k1, h1, h2, h3⟩ := hv (p + 2 + lu) hr j a h
      refine ⟨b, k1, by omega, by rw [mN]; exact Or.inr h2, ?_⟩
      rw [show p + (lu + ((emitN v (p + 2 + lu)).length + 1) + 1) = p + 2 + lu + (emitN v (p + 2 + lu)).length by omega]
      exact h3
  | .group n u => fun p hc k a h => by
    obtain ⟨j, rfl⟩ := acc_pos h
    have hu := nd_snd u
    rw [emitN] at hc ⊢
    obtain ⟨b, k1, h1, h2, h3⟩ := hu (p + 1) hc.tail.left j a ((acc_note hc.head).1 h)
    obtain ⟨i, rfl⟩ := acc_pos h3
    have h3 := (acc_note hc.tail.right.head).1 h3
    refine ⟨b, i, by omega, by rw [mN]; exact h2, ?_⟩
    rw [List.length_cons, List.length_append, show p + ((emitN u (p + 1)).length + [Stp.note (2 * n + 1)].length + 1) = p + 1 + (emitN u (p + 1)).length + 1 by simp; omega]
    exact h3
  | .plus u lz => fun p hc k a h => by
    have hu := nd_snd u
    rw [emitN] at hc ⊢
    obtain ⟨b, k1, h1, h2, h3⟩ := snd_plus hu hc.left hc.right.head k k a (Nat.le_refl _) h
    refine ⟨b, k1, h1, by rw [mN]; exact h2, ?_⟩
    rw [List.length_append, ← Nat.add_assoc]
    exact h3
  | .times u lo hi lz => fun p hc k a h => by
    have hu := nd_snd u
    rw [emitN] at hc ⊢
    obtain ⟨b, k1, h1, h2, h3⟩ := snd_times hu lo hi lz p hc k a h
    exact ⟨b, k1, h1, by rw [mN]; exact h2, h3⟩
theorem nds_snd : ∀ (l : List Nd), SndS P x (emitsN l) (mNs x l)
  | [] => fun p _ k a h => ⟨a, k, Nat.le_refl _, by rw [mNs], by rw [emitsN]; exact h⟩
  | u :: t => fun p hc k a h => by
    have hu := nd_snd u
    have ht := nds_snd t
    rw [emitsN] at hc ⊢
    obtain ⟨b, k1, h1, h2, h3⟩ := hu p hc.left k a h
    obtain ⟨c, k2, h4, h5, h6⟩ := ht _ hc.right k1 b h3
    refine ⟨c, k2, by omega, by rw [mNs]; exact ⟨b, h2, h5⟩, ?_⟩
    rw [List.length_append, ← Nat.add_assoc]
    exact h6
end
mutual
theorem nd_cmp : ∀ (n : Nd), CmpS P x (emitN n) (mN x n)
  | .take l neg => fun p hc a b h ⟨k, hk⟩ => by
    have hc : CodeAt P p [.take l neg] := by rw [emitN] at hc; exact hc
    rw [mN] at h
    obtain ⟨h1, h2, rfl⟩ := h
    refine ⟨k + 1, ?_⟩
    rw [AccK, hc.head]
    exact ⟨h1, h2, by rw [emitN] at hk; exact hk⟩
  | .start => fun p hc a b h ⟨k, hk⟩ => by
    have hc : CodeAt P p [.start] := by rw [emitN] at hc; exact hc
    rw [mN] at h
    obtain ⟨h1, rfl⟩ := h
    refine ⟨k + 1, ?_⟩
    rw [AccK, hc.head]
    exact ⟨h1, by rw [emitN] at hk; exact hk⟩
  | .stop => fun p hc a b h ⟨k, hk⟩ => by
    have hc : CodeAt P p [.stop] := by rw [emitN] at hc; exact hc
    rw [mN] at h
    obtain ⟨h1, rfl⟩ := h
    refine ⟨k + 1, ?_⟩
    rw [AccK, hc.head]
    exact ⟨h1, by rw [emitN] at hk; exact hk⟩
  | .row l => fun p hc a b h hk => by
    rw [emitN] at hc hk
    rw [mN] at h
    exact nds_cmp l p hc a b h hk
  | .either u v => fun p hc a b h ⟨k, hk⟩ => by
    have hu := nd_cmp u
    have hv := nd_cmp v
    rw [emitN] at hc hk
    rw [List.length_cons, List.length_append, List.length_cons] at hk
    rw [mN] at h
    rcases h with h | h
    · have hj := hc.tail.right.head
      have hl := hc.tail.left
      have hh := hc.head
      obtain ⟨i, hi⟩ := hu (p + 1) hl a b h ⟨k + 1, (acc_jump hj).2 (by
        generalize (emitN u (p + 1)).length = lu at *
        rw [show p + (lu + ((emitN v (p + 2 + lu)).length + 1) + 1) = p + 2 + lu + (emitN v (p + 2 + lu)).length by omega] at hk
        exact hk)⟩
      exact ⟨i + 1, (acc_fork (lz := false) hh).2 (Or.inl hi)⟩
    · have hr := hc.tail.right.tail
      have hh := hc.head
      generalize (emitN u (p + 1)).length = lu at *
      rw [show p + 1 + lu + 1 = p + 2 + lu by omega] at hr
      rw [show p + (lu + ((emitN v (p + 2 + lu)).length + 1) + 1) = p + 2 + lu + (emitN v (p + 2 + lu)).length by omega] at hk
      obtain ⟨i, hi⟩ := hv (p + 2 + lu) hr a b h ⟨k, hk⟩
      exact ⟨i + 1, (acc_fork (lz := false) hh).2 (Or.inr hi)⟩
  | .group n u => fun p hc a b h ⟨k, hk⟩ => by
    have hu := nd_cmp u
    rw [emitN] at hc hk
    rw [mN] at h
    rw [List.length_cons, List.length_append, show p + ((emitN u (p + 1)).length + [Stp.note (2 * n + 1)].length + 1) = p + 1 + (emitN u (p + 1)).length + 1 by simp; omega] at hk
    obtain ⟨i, hi⟩ := hu (p + 1) hc.tail.left a b h ⟨k + 1, (acc_note hc.tail.right.head).2 hk⟩
    exact ⟨i + 1, (acc_note hc.head).2 hi⟩
  | .plus u lz => fun p hc a b h hk => by
    have hu := nd_cmp u
    rw [emitN] at hc hk
    rw [mN] at h
    obtain ⟨m, h⟩ := h
    rw [List.length_append, ← Nat.add_assoc] at hk
    exact cmp_plus hu hc.left hc.right.head m a b h hk
  | .times u lo hi lz => fun p hc a b h hk => by
    have hu := nd_cmp u
    rw [emitN] at hc hk
    rw [mN] at h
    exact cmp_times hu lo hi lz p hc a b h hk
theorem nds_cmp : ∀ (l : List Nd), CmpS P x (emitsN l) (mNs x l)
  | [] => fun p _ a b h hk => by
    rw [mNs] at h
    rw [emitsN] at hk
    rw [h]
    exact hk
  | u :: t => fun p hc a b h hk => by
    have hu := nd_cmp u
    have ht := nds_cmp t
    rw [emitsN] at hc hk
    rw [mNs] at h
    obtain ⟨c, h1, h2⟩ := h
    rw [List.length_append, ← Nat.add_assoc] at hk
    exact hu p hc.left a c h1 (ht _ hc.right c b h2 hk)
end
end
end Go.Proofs.YtmbkcmfcdjccoaaDoor
