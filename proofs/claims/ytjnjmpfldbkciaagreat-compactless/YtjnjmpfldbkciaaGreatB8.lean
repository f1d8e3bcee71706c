/- The order of sets: there and back, through a third one, 0 just of alike ones. -/
import Derived.Test.YtjnjmpfldbkciaaGreatYb
namespace Go.Proofs.YtjnjmpfldbkciaaGreat

theorem toList_inj {a b : ByteArray} (h : a.toList = b.toList) : a = b := by
  rw [ByteArray.toList_eq, ByteArray.toList_eq] at h
  cases a
  cases b
  simp at h
  rw [h]
theorem lt_of' {a b : List UInt8} (h : ¬ b < a) (hne : a ≠ b) : a < b := by
  rcases Classical.em (a < b) with h1 | h1
  · exact h1
  · exact absurd (List.le_antisymm (List.not_lt.1 h) (List.not_lt.1 h1)) hne

/-- A comparison that is a total order's. -/
structure TC {α : Type} (c : α → α → Int) : Prop where
  rng : ∀ x y, c x y = -1 ∨ c x y = 0 ∨ c x y = 1
  anti : ∀ x y, c y x = - c x y
  zero : ∀ x y, c x y = 0 ↔ x = y
  tr : ∀ x y z, c x y ≤ 0 → c y z ≤ 0 → c x z ≤ 0

theorem TC.self {α : Type} {c : α → α → Int} (h : TC c) (x : α) : c x x = 0 := (h.zero x x).2 rfl
theorem TC.lt1 {α : Type} {c : α → α → Int} (h : TC c) {x y z : α} (h1 : c x y < 0) (h2 : c y z ≤ 0) : c x z < 0 := by
  have h3 := h.tr x y z (by omega) h2
  rcases Classical.em (c x z = 0) with e | e
  · have := (h.zero x z).1 e
    subst this
    have := h.anti x y
    omega
  · omega
theorem TC.lt2 {α : Type} {c : α → α → Int} (h : TC c) {x y z : α} (h1 : c x y ≤ 0) (h2 : c y z < 0) : c x z < 0 := by
  have h3 := h.tr x y z h1 (by omega)
  rcases Classical.em (c x z = 0) with e | e
  · have := (h.zero x z).1 e
    subst this
    have := h.anti x y
    omega
  · omega

theorem TC.pair {α β : Type} {c : α → α → Int} {d : β → β → Int} (hc : TC c) (hd : TC d) : TC (fun x y : α × β => if c x.1 y.1 = 0 then d x.2 y.2 else c x.1 y.1) where
  rng x y := by
    split
    · exact hd.rng _ _
    · exact hc.rng _ _
  anti x y := by
    have h1 := hc.anti x.1 y.1
    have h2 := hd.anti x.2 y.2
    by_cases h : c x.1 y.1 = 0
    · rw [if_pos h, if_pos (by omega), h2]
    · rw [if_neg h, if_neg (by omega), h1]
  zero x y := by
    by_cases h : c x.1 y.1 = 0
    · rw [if_pos h, hd.zero]
      have := (hc.zero _ _).1 h
      exact ⟨fun e => Prod.ext this e, fun e => by rw [e]⟩
    · rw [if_neg h]
      exact ⟨fun e => absurd e h, fun e => absurd ((hc.zero _ _).2 (by rw [e])) h⟩
  tr x y z h1 h2 := by
    by_cases hxy : c x.1 y.1 = 0
    · rw [if_pos hxy] at h1
      have exy := (hc.zero _ _).1 hxy
      rw [exy]
      by_cases hyz : c y.1 z.1 = 0
      · rw [if_pos hyz] at h2 ⊢
        exact hd.tr _ _ _ h1 h2
      · rw [if_neg hyz] at h2 ⊢
        exact h2
    · rw [if_neg hxy] at h1
      have hlt : c x.1 y.1 < 0 := by omega
      by_cases hyz : c y.1 z.1 = 0
      · have eyz := (hc.zero _ _).1 hyz
        rw [← eyz, if_neg hxy]
        exact h1
      · rw [if_neg hyz] at h2
        have := hc.lt1 hlt h2
        rw [if_neg (by omega)]
        omega

/-- Lists, by their elements in order. -/
def lexC {α : Type} (c : α → α → Int) : List α → List α → Int
  | [], [] => 0
  | [], _ :: _ => -1
  | _ :: _, [] => 1
  | x :: a, y :: b => if c x y = 0 then lexC c a b else c x y

theorem TC.list {α : Type} {c : α → α → Int} (hc : TC c) : TC (lexC c) := by
  have rng : ∀ l m : List α, lexC c l m = -1 ∨ lexC c l m = 0 ∨ lexC c l m = 1 := by
    intro l
    induction l with
    | nil => intro m; cases m <;> simp [lexC]
    | cons x a ih =>
      intro m
      cases m with
      | nil => simp [lexC]
      | cons y b =>
        simp only [lexC]
        split
        · exact ih b
        · exact hc.rng x y
  have anti : ∀ l m : List α, lexC c m l = - lexC c l m := by
    intro l
    induction l with
    | nil => intro m; cases m <;> simp [lexC]
    | cons x a ih =>
      intro m
      cases m with
      | nil => simp [lexC]
      | cons y b =>
        have h1 := hc.anti x y
        simp only [lexC]
        by_cases h : c x y = 0
        · rw [if_pos h, if_pos (by omega), ih]
        · rw [if_neg h, if_neg (by omega), h1]
  have zero : ∀ l m : List α, lexC c l m = 0 ↔ l = m := by
    intro l
    induction l with
    | nil => intro m; cases m <;> simp [lexC]
    | cons x a ih =>
      intro m
      cases m with
      | nil => simp [lexC]
      | cons y b =>
        simp only [lexC, List.cons.injEq]
        by_cases h : c x y = 0
        · rw [if_pos h, ih b]
          have := (hc.zero _ _).1 h
          exact ⟨fun e => ⟨this, e⟩, fun e => e.2⟩
        · rw [if_neg h]
          exact ⟨fun e => absurd e h, fun e => absurd ((hc.zero _ _).2 e.1) h⟩
  have tr : ∀ l m n : List α, lexC c l m ≤ 0 → lexC c m n ≤ 0 → lexC c l n ≤ 0 := by
    intro l
    induction l with
    | nil => intro m n _ _; cases n <;> simp [lexC]
    | cons x a ih =>
      intro m n h1 h2
      cases m with
      | nil => simp [lexC] at h1
      | cons y b =>
        cases n with
        | nil => simp [lexC] at h2
        | cons z d =>
          simp only [lexC] at *
          by_cases hxy : c x y = 0
          · rw [if_pos hxy] at h1
            have exy := (hc.zero _ _).1 hxy
            rw [exy]
            by_cases hyz : c y z = 0
            · rw [if_pos hyz] at h2 ⊢
              exact ih b d h1 h2
            · rw [if_neg hyz] at h2 ⊢
              exact h2
          · rw [if_neg hxy] at h1
            have hlt : c x y < 0 := by omega
            by_cases hyz : c y z = 0
            · have eyz := (hc.zero _ _).1 hyz
              rw [← eyz, if_neg hxy]
              exact h1
            · rw [if_neg hyz] at h2
              have := hc.lt1 hlt h2
              rw [if_neg (by omega)]
              omega
  exact ⟨rng, anti, zero, tr⟩

def c8 (a b : UInt8) : Int := if a < b then -1 else if b < a then 1 else 0
theorem tc8 : TC c8 where
  rng x y := by
    unfold c8
    by_cases h : x < y
    · simp [h]
    · by_cases h' : y < x <;> simp [h, h']
  anti x y := by
    unfold c8
    by_cases h : x < y
    · have : ¬ y < x := by rw [UInt8.lt_iff_toNat_lt] at *; omega
      simp [h, this]
    · by_cases h' : y < x <;> simp [h, h']
  zero x y := by
    unfold c8
    by_cases h : x < y
    · simp [h]; intro e; subst e; rw [UInt8.lt_iff_toNat_lt] at h; omega
    · by_cases h' : y < x
      · simp [h, h']; intro e; subst e; rw [UInt8.lt_iff_toNat_lt] at h'; omega
      · simp [h, h']
        rw [UInt8.lt_iff_toNat_lt] at h h'
        exact UInt8.toNat_inj.1 (by omega)
  tr x y z h1 h2 := by
    have key : ∀ p q : UInt8, c8 p q ≤ 0 ↔ p.toNat ≤ q.toNat := fun p q => by
      unfold c8
      by_cases h : p < q
      · have := h
        rw [UInt8.lt_iff_toNat_lt] at this
        rw [if_pos h]
        omega
      · rw [if_neg h]
        by_cases h' : q < p
        · have := h'
          rw [UInt8.lt_iff_toNat_lt] at this
          rw [if_pos h']
          omega
        · have := h'
          rw [UInt8.lt_iff_toNat_lt] at this
          rw [if_neg h']
          omega
    rw [key] at *
    omega
theorem compareBytes_lex : ∀ a b : List UInt8, Lib.compareBytes a b = lexC c8 a b
  | [], [] => rfl
  | [], _ :: _ => rfl
  | _ :: _, [] => rfl
  | x :: a, y :: b => by
    simp only [Lib.compareBytes, lexC, c8]
    rw [compareBytes_lex a b]
    by_cases h : x < y
    · simp [h]
    · by_cases h' : y < x <;> simp [h, h']
theorem tcb : TC cb where
  rng x y := by unfold cb; rw [compareBytes_lex]; exact tc8.list.rng _ _
  anti x y := by unfold cb; rw [compareBytes_lex, compareBytes_lex]; exact tc8.list.anti _ _
  zero x y := by
    unfold cb
    rw [compareBytes_lex, tc8.list.zero]
    constructor
    · intro h
      exact toList_inj (by rw [ByteArray.toList_eq, ByteArray.toList_eq]; exact h)
    · intro h; rw [h]
  tr x y z h1 h2 := by
    unfold cb at *
    rw [compareBytes_lex] at *
    exact tc8.list.tr _ _ _ h1 h2
theorem cmpL_lex : ∀ a b : List Lb, cmpL a b = lexC cmpLb a b
  | [], [] => rfl
  | [], _ :: _ => rfl
  | _ :: _, [] => rfl
  | x :: a, y :: b => by simp only [cmpL, lexC]; rw [cmpL_lex a b]
theorem tcL : TC cmpL := by
  have h : TC cmpLb := tcb.pair tcb
  have e : cmpL = lexC cmpLb := by funext a b; exact cmpL_lex a b
  rw [e]
  exact h.list

/-- What strings.Compare says, by '<' and '=='. -/
theorem cb_less {a b : ByteArray} (h : Op.bytesLess a.toList b.toList = true) : cb a b = -1 := by
  rw [bytesLess_eq, decide_eq_true_iff, ByteArray.toList_eq, ByteArray.toList_eq] at h
  unfold cb
  generalize a.data.toList = x at *
  generalize b.data.toList = y at *
  induction x generalizing y with
  | nil =>
    cases y with
    | nil => exact absurd h (List.lt_irrefl _)
    | cons _ _ => rfl
  | cons p x ih =>
    cases y with
    | nil => exact absurd h (List.not_lt_nil _)
    | cons q y =>
      rw [List.cons_lt_cons_iff] at h
      simp only [Lib.compareBytes]
      rcases h with h | ⟨rfl, h⟩
      · rw [if_pos h]
      · have hn : ¬ p < p := by rw [UInt8.lt_iff_toNat_lt]; omega
        rw [if_neg hn, if_neg hn]
        exact ih y h
theorem cb_eq {a b : ByteArray} (h : (a.toList == b.toList) = true) : cb a b = 0 := (tcb.zero a b).2 (toList_inj (by simpa using h))
theorem cb_more {a b : ByteArray} (h1 : Op.bytesLess a.toList b.toList = false) (h2 : (a.toList == b.toList) = false) : cb a b = 1 := by
  have h3 : Op.bytesLess b.toList a.toList = true := by
    rw [bytesLess_eq] at *
    rw [decide_eq_false_iff_not] at h1
    rw [decide_eq_true_iff]
    exact lt_of' h1 (fun e => by rw [e] at h2; simp at h2)
  have := cb_less h3
  have h4 := tcb.anti b a
  omega

end Go.Proofs.YtjnjmpfldbkciaaGreat
