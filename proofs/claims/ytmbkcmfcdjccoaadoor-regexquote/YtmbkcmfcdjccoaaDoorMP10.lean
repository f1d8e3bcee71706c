/- The reader of an expression: a class. -/
import Derived.Test.YtmbkcmfcdjccoaaDoorMP9
namespace Go.Proofs.YtmbkcmfcdjccoaaDoor
open Go.RowKit Go.Maps

instance (l : List Sp) : Decidable (Ok32 l) := by unfold Ok32; infer_instance
theorem let_ok : ∀ n : Fin 256, ((letS (UInt8.ofNat n.val)).map fun l => decide (Ok32 l) && !l.isEmpty).getD true = true := by unfold Ok32 maxR; decide +kernel
theorem letS_ok {c : UInt8} {l : List Sp} (h : letS c = some l) : Ok32 l ∧ l ≠ [] := by
  have h9 := let_ok ⟨c.toNat, c.toNat_lt⟩
  rw [UInt8.ofNat_toNat, h] at h9
  simpa using h9
theorem Ok32.one {x y : Int} (h0 : 0 ≤ x) (h1 : x ≤ y) (h2 : y ≤ maxR) : Ok32 [(x, y)] := fun s hs => by rw [List.mem_singleton.1 hs]; exact ⟨h0, h1, h2⟩
theorem escR_ok2 {s : ByteArray} {i p : Nat} {l : List Sp} {al : Bool} (h : escR s i = .yes (l, al) p) : Ok32 l ∧ l ≠ [] := by
  unfold escR at h
  split at h
  · cases h
  · split at h
    · rename_i hl
      cases h
      exact letS_ok hl
    · split at h
      · rename_i he
        cases h
        obtain ⟨h1, h2⟩ := escB_in he
        exact ⟨Ok32.one h1 (Int.le_refl _) h2, by simp⟩
      · cases h
theorem memR_ok2 {s : ByteArray} {i p : Nat} {first : Bool} {l : List Sp} {al : Bool} (hi : i ≤ s.size) (h : memR s i first = .yes (l, al) p) : Ok32 l ∧ l ≠ [] := by
  unfold memR at h
  split at h
  · cases h
  · rename_i hne
    have hlt : i < s.size := by omega
    obtain ⟨k1, k2, k3⟩ := charR_ok hlt
    split at h
    · exact escR_ok2 h
    · split at h
      · cases h
      · cases h
        exact ⟨Ok32.one (by omega) (Int.le_refl _) (by unfold maxR; omega), by simp⟩
/-- What may be said of a piece. -/
def PcOk (s : ByteArray) (i : Nat) : Rd (List Sp) → Prop
  | .no p => i ≤ p ∧ p ≤ s.size
  | .yes l p => i < p ∧ p ≤ s.size ∧ Ok32 l ∧ l.length ≤ 5 ∧ l ≠ []
theorem pieceR_ok {s : ByteArray} {i : Nat} (first : Bool) (hi : i ≤ s.size) : PcOk s i (pieceR s i first) := by
  have h1 := memR_ok first hi
  cases hm : memR s i first with
  | no p =>
    rw [hm] at h1
    have : pieceR s i first = .no p := by unfold pieceR; rw [hm]
    rw [this]
    exact h1
  | yes x p =>
    obtain ⟨l, al⟩ := x
    have h2 := memR_ok2 hi hm
    rw [hm] at h1
    obtain ⟨o1, o2, o3, o4, o5⟩ := h1
    cases al with
    | false =>
      have : pieceR s i first = .yes l p := by unfold pieceR; rw [hm]; exact if_pos (.inl rfl)
      rw [this]
      exact ⟨o1, o2, h2.1, o4, h2.2⟩
    | true =>
      obtain ⟨x, rfl, x0, x1⟩ := o5 rfl
      rw [pieceR_go hm]
      split
      · exact ⟨o1, o2, h2.1, o4, h2.2⟩
      · rename_i hc
        have hlt : p < s.size := by
          by_cases hd : seesB s p 45 = true
          · exact seesB_lt hd
          · exact absurd (.inl (by simpa using hd)) hc
        unfold restR
        split
        · exact ⟨by omega, by omega⟩
        · have h3 := memR_ok (s := s) (i := p + 1) false (by omega)
          cases hm2 : memR s (p + 1) false with
          | no r =>
            rw [hm2] at h3
            exact ⟨by have := h3.1; omega, h3.2⟩
          | yes y r =>
            obtain ⟨l2, al2⟩ := y
            rw [hm2] at h3
            obtain ⟨u1, u2, u3, u4, u5⟩ := h3
            dsimp only
            split
            · exact ⟨by omega, by omega⟩
            · rename_i hc2
              cases al2 with
              | false => exact absurd (.inl rfl) hc2
              | true =>
                obtain ⟨y, rfl, y0, y1⟩ := u5 rfl
                refine ⟨by omega, u2, Ok32.one x0 ?_ y1, by simp, by simp⟩
                have : ¬ y < x := fun h => hc2 (.inr h)
                show x ≤ y
                omega
theorem otherS_mem : ∀ (l : List Sp) (f : Int), RiseS l f → (∀ s ∈ l, s.2 ≤ maxR) → ∀ c, f ≤ c → c ≤ maxR → memS (otherS l f) c = !memS l c
  | [], f, hr, hm, c, h1, h2 => by
    unfold otherS
    rw [if_pos (by omega), memS_one]
    simp [memS, h1, h2]
  | s :: t, f, hr, hm, c, h1, h2 => by
    obtain ⟨r1, r2, r3⟩ := hr
    unfold otherS
    rw [memS_append, show (s :: t) = [s] ++ t from rfl, memS_append, memS_one]
    have hlow : ∀ (l : List Sp) (f : Int), RiseS l f → ∀ c, c < f → memS l c = false ∧ memS (otherS l f) c = false := by
      intro l
      induction l with
      | nil =>
        intro f _ c hc
        refine ⟨rfl, ?_⟩
        unfold otherS
        split
        · rw [memS_one]; simp; omega
        · rfl
      | cons a u ih =>
        intro f ⟨q1, q2, q3⟩ c hc
        have := ih (a.2 + 1) q3 c (by omega)
        refine ⟨?_, ?_⟩
        · rw [show (a :: u) = [a] ++ u from rfl, memS_append, this.1, memS_one]; simp; omega
        · unfold otherS
          rw [memS_append, this.2]
          split
          · rw [memS_one]; simp; omega
          · rfl
    by_cases hc : c ≤ s.2
    · obtain ⟨e1, e2⟩ := hlow t (s.2 + 1) r3 c (by omega)
      rw [e1, e2]
      split
      · rw [memS_one]
        by_cases h3 : s.1 ≤ c
        · simp [h3, hc]; omega
        · simp [h3, h1]; omega
      · have : s.1 ≤ c := by omega
        simp [memS, this, hc]
    · have ih := otherS_mem t (s.2 + 1) r3 (fun x hx => hm x (by simp [hx])) c (by omega) h2
      rw [ih]
      have e0 : memS (if f < s.1 then [(f, s.1 - 1)] else []) c = false := by
        split
        · rw [memS_one]; simp; omega
        · rfl
      rw [e0]
      simp [hc]
theorem otherS_rise : ∀ (l : List Sp) (f : Int), RiseS l f → RiseS (otherS l f) f
  | [], f, _ => by
    unfold otherS
    split
    · exact ⟨Int.le_refl _, by assumption, trivial⟩
    · trivial
  | s :: t, f, hr => by
    obtain ⟨r1, r2, r3⟩ := hr
    have ih := otherS_rise t (s.2 + 1) r3
    have hmono : ∀ (l : List Sp) (f g : Int), g ≤ f → RiseS l f → RiseS l g := by
      intro l f g hg h
      cases l with
      | nil => trivial
      | cons a u => exact ⟨by have := h.1; omega, h.2⟩
    unfold otherS
    split
    · exact ⟨Int.le_refl _, by show f ≤ s.1 - 1; omega, hmono _ _ _ (by show s.1 - 1 + 1 ≤ s.2 + 1; omega) ih⟩
    · exact hmono _ _ _ (by omega) ih
theorem otherS_ok : ∀ (l : List Sp) (f : Int), 0 ≤ f → RiseS l f → (∀ s ∈ l, s.2 ≤ maxR) → Ok32 (otherS l f)
  | [], f, h0, _, _ => by
    unfold otherS
    split
    · exact Ok32.one h0 (by assumption) (Int.le_refl _)
    · exact fun s hs => by cases hs
  | s :: t, f, h0, hr, hm => by
    obtain ⟨r1, r2, r3⟩ := hr
    have ih := otherS_ok t (s.2 + 1) (by omega) r3 (fun x hx => hm x (by simp [hx]))
    have := hm s (by simp)
    unfold otherS
    refine Ok32.append ?_ ih
    split
    · exact Ok32.one h0 (by show f ≤ s.1 - 1; omega) (by show s.1 - 1 ≤ maxR; omega)
    · exact fun s hs => by cases hs
/-- The spans that stand for a class. -/
structure ClsOk (A l : List Sp) (neg : Bool) : Prop where
  rise : RiseS A 0
  ok : Ok32 A
  mem : ∀ c, 0 ≤ c → c ≤ maxR → memS A c = (memS l c != neg)
theorem ClsOk.same {A l : List Sp} (h1 : RiseS A 0) (h2 : Ok32 A) (h3 : ∀ c, memS A c = memS l c) : ClsOk A l false := ⟨h1, h2, fun c _ _ => by rw [h3]; simp⟩
theorem ClsOk.others {A l : List Sp} (h1 : RiseS A 0) (h2 : Ok32 A) (h3 : ∀ c, memS A c = memS l c) : ClsOk (otherS A 0) l true :=
  ⟨otherS_rise A 0 h1, otherS_ok A 0 (Int.le_refl _) h1 (fun s hs => (h2 s hs).2.2), fun c c0 c1 => by rw [otherS_mem A 0 h1 (fun s hs => (h2 s hs).2.2) c c0 c1, h3]; simp⟩
end Go.Proofs.YtmbkcmfcdjccoaaDoor
