/- So many bits hold so many samples: what lies behind them is not read. -/
import Derived.Test.YtkmclgbiedbfpaaDoorK1
namespace Go.Proofs.YtkmclgbiedbfpaaDoor

/-- c bits are enough: what lies behind them is handed on, and no more are taken -/
def Ext {α : Type} (c : Nat) (f : List Bool → Option (α × List Bool)) : Prop :=
  ∀ a b, c ≤ a.length → f (a ++ b) = (f a).map (fun p => (p.1, p.2 ++ b)) ∧ ∀ p, f a = some p → a.length ≤ p.2.length + c
theorem Ext.mono {α : Type} {c d : Nat} {f : List Bool → Option (α × List Bool)} (h : Ext c f) (hd : c ≤ d) : Ext d f := fun a b hl => by
  obtain ⟨h1, h2⟩ := h a b (by omega)
  exact ⟨h1, fun p hp => by have := h2 p hp; omega⟩
theorem Ext.takeN (n : Nat) : Ext n (takeN n) := fun a b hl => by
  unfold Go.Proofs.YtkmclgbiedbfpaaDoor.takeN
  rw [if_pos hl, if_pos (by rw [List.length_append]; omega), List.take_append_of_le_length hl, List.drop_append_of_le_length hl]
  refine ⟨rfl, fun p hp => ?_⟩
  cases hp
  simp
  omega
theorem Ext.map {α β : Type} {c : Nat} {f : List Bool → Option (α × List Bool)} (h : Ext c f) (g : α → β) : Ext c (fun r => (f r).map fun p => (g p.1, p.2)) := fun a b hl => by
  obtain ⟨h1, h2⟩ := h a b hl
  constructor
  · show (f (a ++ b)).map _ = ((f a).map _).map _
    rw [h1]
    cases f a <;> rfl
  · intro p hp
    dsimp only at hp
    cases h3 : f a with
    | none => rw [h3] at hp; cases hp
    | some q =>
      rw [h3] at hp
      cases hp
      exact h2 q h3
theorem Ext.bind {α β : Type} {c d : Nat} {f : List Bool → Option (α × List Bool)} {g : α → List Bool → Option (β × List Bool)} (h : Ext c f) (hg : ∀ a p, f a = some p → Ext d (g p.1)) : Ext (c + d) (fun r => (f r).bind fun p => g p.1 p.2) := fun a b hl => by
  obtain ⟨h1, h2⟩ := h a b (by omega)
  show (f (a ++ b)).bind _ = ((f a).bind _).map _ ∧ ∀ p, (f a).bind _ = some p → _
  rw [h1]
  cases h3 : f a with
  | none => exact ⟨rfl, fun p hp => by cases hp⟩
  | some q =>
    have h4 := h2 q h3
    obtain ⟨h5, h6⟩ := hg a q h3 q.2 b (by omega)
    refine ⟨h5, fun p hp => ?_⟩
    have := h6 p hp
    omega
theorem Ext.takeC (n b : Nat) : Ext n (takeC n b) := (Ext.takeN n).map (fun x => (x + (18446744073709551616 - b)) % 18446744073709551616)
theorem Ext.change : Ext 68 takeChange := fun a b hl => by
  match a, hl with
  | false :: r, _ => exact ⟨rfl, fun p hp => by cases hp; simp only [List.length_cons]; omega⟩
  | true :: false :: r, hl =>
    obtain ⟨h1, h2⟩ := Ext.takeC 7 63 r b (by simp at hl; omega)
    exact ⟨h1, fun p hp => by have := h2 p hp; simp; omega⟩
  | true :: true :: false :: r, hl =>
    obtain ⟨h1, h2⟩ := Ext.takeC 9 255 r b (by simp at hl; omega)
    exact ⟨h1, fun p hp => by have := h2 p hp; simp; omega⟩
  | true :: true :: true :: false :: r, hl =>
    obtain ⟨h1, h2⟩ := Ext.takeC 12 2047 r b (by simp at hl; omega)
    exact ⟨h1, fun p hp => by have := h2 p hp; simp; omega⟩
  | true :: true :: true :: true :: r, hl =>
    obtain ⟨h1, h2⟩ := Ext.takeN 64 r b (by simp at hl; omega)
    exact ⟨h1, fun p hp => by have := h2 p hp; simp; omega⟩
  | [], hl => exact absurd hl (by decide)
  | [true], hl => exact absurd hl (by decide)
  | [true, true], hl => exact absurd hl (by decide)
  | [true, true, true], hl => exact absurd hl (by decide)
theorem Ext.time (s : An) : Ext 68 (takeTime s) := by
  have h := Ext.change.map (fun c => ({ s with d := (s.d + c) % 18446744073709551616, t := (s.t + (s.d + c) % 18446744073709551616) % 18446744073709551616 } : An))
  exact h
theorem Ext.x (s : An) (hs : s.size ≤ 64) : Ext 64 (takeX s) := by
  by_cases h : s.size = 0
  · intro a b _
    unfold takeX
    rw [if_pos h, if_pos h]
    exact ⟨rfl, fun p hp => by cases hp⟩
  · have e : takeX s = fun r => (Go.Proofs.YtkmclgbiedbfpaaDoor.takeN s.size r).map fun p => (({ s with v := s.v ^^^ (p.1 <<< (64 - s.lead - s.size)) } : An), p.2) := by
      funext r
      unfold takeX
      rw [if_neg h]
    rw [e]
    exact ((Ext.takeN s.size).map (fun x => ({ s with v := s.v ^^^ (x <<< (64 - s.lead - s.size)) } : An))).mono hs
theorem Ext.win (s : An) : Ext 11 (takeWin s) := by
  have h : Ext (5 + 6) (fun r => (Go.Proofs.YtkmclgbiedbfpaaDoor.takeN 5 r).bind fun p => (fun x r => (Go.Proofs.YtkmclgbiedbfpaaDoor.takeN 6 r).bind fun q => if x + (q.1 + 1) ≤ 64 then some (({ s with lead := x, size := q.1 + 1 } : An), q.2) else none) p.1 p.2) := by
    refine Ext.bind (g := fun x r => (Go.Proofs.YtkmclgbiedbfpaaDoor.takeN 6 r).bind fun q => if x + (q.1 + 1) ≤ 64 then some (({ s with lead := x, size := q.1 + 1 } : An), q.2) else none) (Ext.takeN 5) fun _ p _ => ?_
    have h6 : Ext (6 + 0) (fun r => (Go.Proofs.YtkmclgbiedbfpaaDoor.takeN 6 r).bind fun q => (fun x r => if p.1 + (x + 1) ≤ 64 then some (({ s with lead := p.1, size := x + 1 } : An), r) else none) q.1 q.2) := by
      refine Ext.bind (g := fun x r => if p.1 + (x + 1) ≤ 64 then some (({ s with lead := p.1, size := x + 1 } : An), r) else none) (Ext.takeN 6) fun _ q _ => ?_
      intro a b _
      dsimp only
      split
      · exact ⟨rfl, fun p hp => by cases hp; simp⟩
      · exact ⟨rfl, fun p hp => by cases hp⟩
    exact h6
  exact h
theorem win_size {s : An} {r : List Bool} {p : An × List Bool} (h : takeWin s r = some p) : p.1.size ≤ 64 := by
  unfold takeWin at h
  cases h1 : takeN 5 r with
  | none => rw [h1] at h; cases h
  | some q =>
    rw [h1, Option.bind_some] at h
    cases h2 : takeN 6 q.2 with
    | none => rw [h2] at h; cases h
    | some z =>
      rw [h2, Option.bind_some] at h
      split at h
      · cases h
        show z.1 + 1 ≤ 64
        omega
      · cases h
theorem Ext.value (s : An) (hs : s.size ≤ 64) : Ext 77 (takeValue s) := fun a b hl => by
  match a, hl with
  | false :: r, _ => exact ⟨rfl, fun p hp => by cases hp; simp only [List.length_cons]; omega⟩
  | true :: false :: r, hl =>
    obtain ⟨h1, h2⟩ := Ext.x s hs r b (by simp at hl; omega)
    exact ⟨h1, fun p hp => by have := h2 p hp; simp; omega⟩
  | true :: true :: r, hl =>
    have h : Ext (11 + 64) (fun r => (takeWin s r).bind fun p => takeX p.1 p.2) := Ext.bind (g := fun x r => takeX x r) (Ext.win s) fun _ p hp => Ext.x p.1 (win_size hp)
    obtain ⟨h1, h2⟩ := h r b (by simp at hl; omega)
    exact ⟨h1, fun p hp => by have := h2 p hp; simp; omega⟩
  | [], hl => exact absurd hl (by decide)
  | [true], hl => exact absurd hl (by decide)
theorem x_size {s : An} {r : List Bool} {p : An × List Bool} (h : takeX s r = some p) : p.1.size = s.size := by
  unfold takeX at h
  split at h
  · cases h
  · cases h1 : takeN s.size r with
    | none => rw [h1] at h; cases h
    | some q => rw [h1] at h; cases h; rfl
theorem value_size {s : An} (hs : s.size ≤ 64) {r : List Bool} {p : An × List Bool} (h : takeValue s r = some p) : p.1.size ≤ 64 := by
  match r, h with
  | false :: r, h => cases h; exact hs
  | true :: false :: r, h => rw [x_size (show takeX s r = some p from h)]; exact hs
  | true :: true :: r, h =>
    have h' : (takeWin s r).bind (fun p => takeX p.1 p.2) = some p := h
    cases h1 : takeWin s r with
    | none => rw [h1] at h'; cases h'
    | some q =>
      rw [h1, Option.bind_some] at h'
      rw [x_size h']
      exact win_size h1
theorem time_size {s : An} {r : List Bool} {p : An × List Bool} (h : takeTime s r = some p) : p.1.size = s.size := by
  unfold takeTime at h
  cases h1 : takeChange r with
  | none => rw [h1] at h; cases h
  | some q => rw [h1] at h; cases h; rfl
theorem Ext.next (f : Bool) (s : An) (hs : s.size ≤ 64) : Ext 145 (nextD f s) := by
  cases f
  · have h : Ext (68 + 77) (fun r => (takeTime s r).bind fun p => takeValue p.1 p.2) := Ext.bind (g := fun x r => takeValue x r) (Ext.time s) fun _ p hp => Ext.value p.1 (by rw [time_size hp]; exact hs)
    exact h
  · have h : Ext (64 + 64) (fun r => (Go.Proofs.YtkmclgbiedbfpaaDoor.takeN 64 r).bind fun p => (fun t r => (Go.Proofs.YtkmclgbiedbfpaaDoor.takeN 64 r).map fun q => (({ s with t := t, v := q.1 } : An), q.2)) p.1 p.2) :=
      Ext.bind (g := fun t r => (Go.Proofs.YtkmclgbiedbfpaaDoor.takeN 64 r).map fun q => (({ s with t := t, v := q.1 } : An), q.2)) (Ext.takeN 64) fun _ p _ => (Ext.takeN 64).map (fun v => ({ s with t := p.1, v := v } : An))
    exact Ext.mono h (by decide)
theorem next_size {f : Bool} {s : An} (hs : s.size ≤ 64) {r : List Bool} {p : An × List Bool} (h : nextD f s r = some p) : p.1.size ≤ 64 := by
  cases f
  · have h' : (takeTime s r).bind (fun p => takeValue p.1 p.2) = some p := h
    cases h1 : takeTime s r with
    | none => rw [h1] at h'; cases h'
    | some q =>
      rw [h1, Option.bind_some] at h'
      exact value_size (by rw [time_size h1]; exact hs) h'
  · have h' : (takeN 64 r).bind (fun p => (takeN 64 p.2).map fun q => (({ s with t := p.1, v := q.1 } : An), q.2)) = some p := h
    cases h1 : takeN 64 r with
    | none => rw [h1] at h'; cases h'
    | some q =>
      rw [h1, Option.bind_some] at h'
      cases h2 : takeN 64 q.2 with
      | none => rw [h2] at h'; cases h'
      | some z => rw [h2] at h'; cases h'; exact hs
theorem decL_ext (n : Nat) : ∀ (f : Bool) (s : An) (a b : List Bool), s.size ≤ 64 → 145 * n ≤ a.length → decL n f s (a ++ b) = decL n f s a := by
  induction n with
  | zero => intro f s a b _ _; rfl
  | succ n ih =>
    intro f s a b hs hl
    obtain ⟨h1, h2⟩ := Ext.next f s hs a b (by omega)
    rw [decL, decL, h1]
    cases h3 : nextD f s a with
    | none => rfl
    | some p =>
      have h4 := h2 p h3
      dsimp only [Option.map_some]
      rw [ih false p.1 p.2 b (next_size hs h3) (by omega)]
theorem ub_app (a b : List UInt8) : ub (a ++ b) = ub a ++ ub b := by simp [ub]
/-- What is cut off behind the bytes that so many samples can take is not read. -/
theorem decR_cut (x y : UInt8) (t : List UInt8) (m : Nat) (hm : (x.toNat * 256 + y.toNat) * 145 + 7 < 8 * (m + 1)) : decR (x :: y :: t.take m) = decR (x :: y :: t) := by
  show decL _ true An.zero (ub (t.take m)) = decL _ true An.zero (ub t)
  by_cases h : m ≤ t.length
  · conv => rhs; rw [← List.take_append_drop m t, ub_app]
    rw [decL_ext _ _ _ _ _ (by decide) (by rw [ub_length, List.length_take, Nat.min_eq_left h]; omega)]
  · rw [List.take_of_length_le (by omega)]

end Go.Proofs.YtkmclgbiedbfpaaDoor
