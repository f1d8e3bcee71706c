/- The reader of an expression: repeats; what may be said of the places. -/
import Derived.Test.YtmbkcmfcdjccoaaDoorMP16
namespace Go.Proofs.YtmbkcmfcdjccoaaDoor
open Go.RowKit Go.Maps

/-- The repeat behind a thing, if there is one. -/
theorem repeated_any (U p S0 : Nat) (s : ByteArray) (i g : Nat) (x : Nd) (w : World) (h : RdAt w U s i g) (hx : NdAt w (Fresh S0 w.heap.size) x p) (hU0 : U < S0) (hS : S0 ≤ w.heap.size) (h0 : 0 ≤ sizeN x) (hs : s.size ≤ 1000000) :
    Calls Tryd.prog 52 #[.pointer (some ⟨U, 0, none⟩), .pointer (some ⟨p, 0, none⟩)] w fun e w' => NdP w U s g S0 (repR s x i) e w' := by
  cases h42 : seesB s i 42 with
  | true => exact repeated_star U p S0 s i g x w h hx hU0 hS h0 hs h42
  | false =>
    cases h43 : seesB s i 43 with
    | true => exact repeated_plus U p S0 s i g x w h hx hU0 hS h0 hs h42 h43
    | false =>
      cases h63 : seesB s i 63 with
      | true => exact repeated_quest U p S0 s i g x w h hx hU0 hS h0 hs h42 h43 h63
      | false =>
        cases h123 : seesB s i 123 with
        | false => exact repeated_none U p S0 s i g x w h hx hU0 hS h0 hs h42 h43 h63 h123
        | true =>
          cases hc : countR s (i + 1) with
          | no q => exact repeated_refused U p S0 s i g x w h hx hU0 hS h0 hs h42 h43 h63 h123 q hc
          | yes r q =>
            obtain ⟨lo, hi⟩ := r
            by_cases hne : hi = -1
            · subst hne
              exact repeated_open U p S0 s i g x w h hx hU0 hS h0 hs h42 h43 h63 h123 lo q hc
            · exact repeated_closed U p S0 s i g x w h hx hU0 hS h0 hs h42 h43 h63 h123 lo hi hne q hc

mutual
/-- All repeats are right: the most is none, or not less than the least. -/
def WfN : Nd → Prop
  | .take _ _ => True
  | .start => True
  | .stop => True
  | .row l => WfsN l
  | .either a b => WfN a ∧ WfN b
  | .group _ a => WfN a
  | .plus a _ => WfN a
  | .times a lo hi _ => WfN a ∧ lo ≤ 100 ∧ -1 ≤ hi ∧ hi ≤ 100 ∧ (hi = -1 ∨ (lo : Int) ≤ hi)
def WfsN : List Nd → Prop
  | [] => True
  | a :: t => WfN a ∧ WfsN t
end
mutual
theorem wf_size : ∀ (x : Nd), WfN x → 0 ≤ sizeN x
  | .take l neg, _ => by unfold sizeN; decide
  | .start, _ => by unfold sizeN; decide
  | .stop, _ => by unfold sizeN; decide
  | .row l, h => by
    unfold WfN at h
    unfold sizeN
    exact wfs_size l h 0 (Int.le_refl _)
  | .either a b, h => by
    unfold WfN at h
    have h1 := wf_size a h.1
    have h2 := wf_size b h.2
    unfold sizeN capN
    omega
  | .group n a, h => by
    unfold WfN at h
    have h1 := wf_size a h
    unfold sizeN capN
    omega
  | .plus a lz, h => by
    unfold WfN at h
    have h1 := wf_size a h
    unfold sizeN capN
    omega
  | .times a lo hi lz, h => by
    unfold WfN at h
    obtain ⟨h0, h1, h2, h3, h4⟩ := h
    have hz := wf_size a h0
    have hzt := sizeN_top a
    obtain ⟨m0, m1⟩ := mul_in (a := lo) (b := sizeN a) (by omega) (by omega) hz (by omega)
    rw [sizeN_times]
    split
    · unfold capN; omega
    · obtain ⟨m2, m3⟩ := mul_in (a := hi - lo) (b := sizeN a + 1) (by omega) (by omega) (by omega) (by omega)
      unfold capN
      omega
theorem wfs_size : ∀ (l : List Nd), WfsN l → ∀ n, 0 ≤ n → 0 ≤ sizesN l n
  | [], _, n, hn => by unfold sizesN; exact hn
  | a :: t, h, n, hn => by
    unfold WfsN at h
    have h1 := wf_size a h.1
    unfold sizesN
    exact wfs_size t h.2 _ (by unfold capN; omega)
end
theorem wfs_push : ∀ (l : List Nd) (x : Nd), WfsN l → WfN x → WfsN (l ++ [x])
  | [], x, _, hx => by
    show WfsN [x]
    unfold WfsN WfsN
    exact ⟨hx, trivial⟩
  | a :: t, x, h, hx => by
    show WfsN (a :: (t ++ [x]))
    unfold WfsN at h ⊢
    exact ⟨h.1, wfs_push t x h.2 hx⟩
/-- What may be said of a thing with its repeat. -/
def RpOk (s : ByteArray) (i : Nat) : Rd Nd → Prop
  | .no p => p ≤ s.size
  | .yes x p => i ≤ p ∧ p ≤ s.size ∧ WfN x
theorem repR_ok {s : ByteArray} {i : Nat} (x : Nd) (h0 : WfN x) (hi : i ≤ s.size) : RpOk s i (repR s x i) := by
  have hov : ∀ j, j ≤ s.size → j ≤ overB s j 63 ∧ overB s j 63 ≤ s.size := fun j hj => ⟨by unfold overB; split <;> omega, overB_le hj 63⟩
  cases h42 : seesB s i 42 with
  | true =>
    have hlt := seesB_lt h42
    have := hov (i + 1) (by omega)
    rw [repR_star x h42]
    exact ⟨by omega, by omega, by unfold WfN; exact ⟨h0, by omega, by omega, by omega, Or.inl rfl⟩⟩
  | false =>
    cases h43 : seesB s i 43 with
    | true =>
      have hlt := seesB_lt h43
      have := hov (i + 1) (by omega)
      rw [repR_plus x h42 h43]
      exact ⟨by omega, by omega, by unfold WfN; exact h0⟩
    | false =>
      cases h63 : seesB s i 63 with
      | true =>
        have hlt := seesB_lt h63
        have := hov (i + 1) (by omega)
        rw [repR_quest x h42 h43 h63]
        exact ⟨by omega, by omega, by unfold WfN; exact ⟨h0, by omega, by omega, by omega, Or.inr (by decide)⟩⟩
      | false =>
        cases h123 : seesB s i 123 with
        | false =>
          rw [repR_none x h42 h43 h63 h123]
          exact ⟨Nat.le_refl _, hi, h0⟩
        | true =>
          have hlt := seesB_lt h123
          have hk := countR_ok (s := s) (i := i + 1) (by omega)
          rw [repR_brace x h42 h43 h63 h123]
          cases hc : countR s (i + 1) with
          | no q => rw [hc] at hk; exact hk.2
          | yes r q =>
            obtain ⟨lo, hi2⟩ := r
            rw [hc] at hk
            obtain ⟨k1, k2, k3, k4, k5, k6⟩ := hk
            have := hov q k2
            exact ⟨by omega, by omega, by unfold WfN; exact ⟨h0, k3, k4, k5, k6⟩⟩
/-- A class ends within the text. -/
theorem piecesR_ok {s : ByteArray} : ∀ (n i : Nat) (first : Bool) (acc : List Sp), i ≤ s.size → match piecesR s n i first acc with | .no p => p ≤ s.size | .yes _ p => i < p ∧ p ≤ s.size
  | 0, i, first, acc, hi => hi
  | n + 1, i, first, acc, hi => by
    unfold piecesR
    by_cases h : first = false ∧ seesB s i 93 = true
    · rw [if_pos h]
      have := seesB_lt h.2
      exact ⟨Nat.lt_succ_self _, this⟩
    · rw [if_neg h]
      have hp := pieceR_ok (s := s) (i := i) first hi
      cases hq : pieceR s i first with
      | no p => rw [hq] at hp; exact hp.2
      | yes l p =>
        rw [hq] at hp
        have ih := piecesR_ok n p false (acc ++ l) hp.2.1
        dsimp only
        cases hr : piecesR s n p false (acc ++ l) with
        | no q => rw [hr] at ih; exact ih
        | yes m q => rw [hr] at ih; exact ⟨by have := hp.1; have := ih.1; omega, ih.2⟩
theorem classR_ok {s : ByteArray} {i : Nat} (hi : i ≤ s.size) : match classR s i with | .no p => p ≤ s.size | .yes _ p => i < p ∧ p ≤ s.size := by
  unfold classR
  cases h94 : seesB s i 94 with
  | true =>
    have hlt := seesB_lt h94
    have h := piecesR_ok (s := s) (s.size + 1) (i + 1) true [] (by omega)
    rw [if_pos rfl]
    cases hr : piecesR s (s.size + 1) (i + 1) true [] with
    | no p => rw [hr] at h; exact h
    | yes l p => rw [hr] at h; exact ⟨by have := h.1; omega, h.2⟩
  | false =>
    have h := piecesR_ok (s := s) (s.size + 1) i true [] hi
    rw [if_neg (by simp)]
    cases hr : piecesR s (s.size + 1) i true [] with
    | no p => rw [hr] at h; exact h
    | yes l p => rw [hr] at h; exact h

/-- What may be said of parts that are read from a place on. -/
def PtOk (s : ByteArray) (i : Nat) : Pt Nd → Prop
  | .no p => p ≤ s.size
  | .yes x p g => i ≤ p ∧ p ≤ s.size ∧ g ≤ p ∧ WfN x
theorem PtOk.mono {s : ByteArray} {i j : Nat} {R : Pt Nd} (h : PtOk s j R) (hij : i ≤ j) : PtOk s i R := by
  cases R with
  | no p => exact h
  | yes x p g => exact ⟨by have := h.1; omega, h.2⟩
/-- One further, of each. -/
theorem either_one (s : ByteArray) (n i g : Nat) : eitherR s (n + 1) i g = match rowR s n i g [] with | .no p => .no p | .yes a p g2 => if seesB s p 124 = false then .yes a p g2 else match eitherR s n (p + 1) g2 with | .no q => .no q | .yes b q g3 => .yes (.either a b) q g3 := by rw [eitherR]; rfl
theorem row_one (s : ByteArray) (n i g : Nat) (acc : List Nd) : rowR s (n + 1) i g acc = if s.size ≤ i ∨ seesB s i 124 = true ∨ seesB s i 41 = true then .yes (.row acc) i g else match partR s n i g with | .no p => .no p | .yes a p g2 => rowR s n p g2 (acc ++ [a]) := by rw [rowR]; rfl
theorem part_one (s : ByteArray) (n i g : Nat) : partR s (n + 1) i g = if seesB s i 94 = true then .yes .start (i + 1) g else if seesB s i 36 = true then .yes .stop (i + 1) g else match thingR s n i g with | .no p => .no p | .yes x p g2 => match repR s x p with | .no q => .no q | .yes y q => .yes y q g2 := by rw [partR]; rfl
theorem thing_one (s : ByteArray) (n i g : Nat) : thingR s (n + 1) i g = if seesB s i 40 = true then bracketR s n (i + 1) g else if seesB s i 91 = true then (match classR s (i + 1) with | .no p => .no p | .yes (l, neg) p => .yes (.take l neg) p g) else if seesB s i 46 = true then .yes (.take [(0, maxR)] false) (i + 1) g else if seesB s i 92 = true then (match escR s (i + 1) with | .no p => .no p | .yes (l, _) p => .yes (.take l false) p g) else if ((s.data.toList[i]?).map specB).getD false = true then .no i else .yes (.take [((charR s i).1, (charR s i).1)] false) (i + (charR s i).2) g := by rw [thingR]; rfl
theorem bracket_one (s : ByteArray) (n i g : Nat) : bracketR s (n + 1) i g = if seesB s i 63 = true then (if seesB s (i + 1) 58 = true then (match eitherR s n (i + 2) g with | .no p => .no p | .yes x p g2 => if seesB s p 41 = true then .yes x (p + 1) g2 else .no p) else .no (i + 1)) else match eitherR s n i (g + 1) with | .no p => .no p | .yes x p g2 => if seesB s p 41 = true then .yes (.group (g + 1) x) (p + 1) g2 else .no p := by rw [bracketR]; rfl
/-- All five, at once. -/
structure AllOk (s : ByteArray) (n : Nat) : Prop where
  either : ∀ i g, i ≤ s.size → g ≤ i → PtOk s i (eitherR s n i g)
  row : ∀ i g acc, i ≤ s.size → g ≤ i → WfsN acc → PtOk s i (rowR s n i g acc)
  part : ∀ i g, i < s.size → g ≤ i → PtOk s (i + 1) (partR s n i g)
  thing : ∀ i g, i < s.size → g ≤ i → PtOk s (i + 1) (thingR s n i g)
  bracket : ∀ i g, i ≤ s.size → g + 1 ≤ i → PtOk s i (bracketR s n i g)
theorem sizeN_take (l : List Sp) (neg : Bool) : WfN (.take l neg) := by unfold WfN; trivial
theorem allOk (s : ByteArray) : ∀ n, AllOk s n
  | 0 => by
    refine ⟨fun i g h _ => ?_, fun i g acc h _ _ => ?_, fun i g h _ => ?_, fun i g h _ => ?_, fun i g h _ => ?_⟩
    · rw [eitherR]; exact h
    · rw [rowR]; exact h
    · rw [partR]; exact Nat.le_of_lt h
    · rw [thingR]; exact Nat.le_of_lt h
    · rw [bracketR]; exact h
  | n + 1 => by
    have ih := allOk s n
    refine ⟨fun i g h hg => ?_, fun i g acc h hg ha => ?_, fun i g h hg => ?_, fun i g h hg => ?_, fun i g h hg => ?_⟩
    · rw [either_one]
      have h1 := ih.row i g [] h hg (by unfold WfsN; trivial)
      cases hr : rowR s n i g [] with
      | no p => rw [hr] at h1; exact h1
      | yes a p g2 =>
        rw [hr] at h1
        obtain ⟨a1, a2, a3, a4⟩ := h1
        dsimp only
        split
        · exact ⟨a1, a2, a3, a4⟩
        · rename_i h124
          have hlt := seesB_lt (by simpa using h124 : seesB s p 124 = true)
          have h2 := ih.either (p + 1) g2 (by omega) (by omega)
          cases hq : eitherR s n (p + 1) g2 with
          | no q => rw [hq] at h2; exact h2
          | yes b q g3 =>
            rw [hq] at h2
            obtain ⟨b1, b2, b3, b4⟩ := h2
            exact ⟨by omega, b2, b3, by unfold WfN; exact ⟨a4, b4⟩⟩
    · rw [row_one]
      split
      · refine ⟨Nat.le_refl _, h, hg, ?_⟩
        unfold WfN
        exact ha
      · rename_i hc
        have hlt : i < s.size := by
          have : ¬ s.size ≤ i := fun h9 => hc (.inl h9)
          omega
        have h1 := ih.part i g hlt hg
        cases hr : partR s n i g with
        | no p => rw [hr] at h1; exact h1
        | yes a p g2 =>
          rw [hr] at h1
          obtain ⟨a1, a2, a3, a4⟩ := h1
          exact (ih.row p g2 (acc ++ [a]) a2 a3 (wfs_push acc a ha a4)).mono (by omega)
    · rw [part_one]
      split
      · exact ⟨Nat.le_refl _, h, by omega, by unfold WfN; trivial⟩
      · split
        · exact ⟨Nat.le_refl _, h, by omega, by unfold WfN; trivial⟩
        · have h1 := ih.thing i g h hg
          cases hr : thingR s n i g with
          | no p => rw [hr] at h1; exact h1
          | yes x p g2 =>
            rw [hr] at h1
            obtain ⟨a1, a2, a3, a4⟩ := h1
            have h2 := repR_ok (s := s) (i := p) x a4 a2
            dsimp only
            cases hq : repR s x p with
            | no q => rw [hq] at h2; exact h2
            | yes y q => rw [hq] at h2; exact ⟨by have := h2.1; omega, h2.2.1, by have := h2.1; omega, h2.2.2⟩
    · rw [thing_one]
      split
      · exact ih.bracket (i + 1) g (by omega) (by omega)
      · split
        · have h2 := classR_ok (s := s) (i := i + 1) (by omega)
          cases hq : classR s (i + 1) with
          | no q => rw [hq] at h2; exact h2
          | yes r q =>
            obtain ⟨l, neg⟩ := r
            rw [hq] at h2
            exact ⟨by have := h2.1; omega, h2.2, by have := h2.1; omega, sizeN_take _ _⟩
        · split
          · exact ⟨Nat.le_refl _, h, by omega, sizeN_take _ _⟩
          · split
            · have h2 := escR_ok (s := s) (i := i + 1) (by omega)
              cases hq : escR s (i + 1) with
              | no q => rw [hq] at h2; exact h2.2
              | yes r q =>
                obtain ⟨l, al⟩ := r
                rw [hq] at h2
                exact ⟨by have := h2.1; omega, h2.2.1, by have := h2.1; omega, sizeN_take _ _⟩
            · split
              · exact Nat.le_of_lt h
              · obtain ⟨k1, k2, k3⟩ := charR_ok h
                exact ⟨by omega, k2, by omega, sizeN_take _ _⟩
    · rw [bracket_one]
      split
      · rename_i h63
        have hlt := seesB_lt h63
        split
        · rename_i h58
          have hlt2 := seesB_lt h58
          have h1 := ih.either (i + 2) g (by omega) (by omega)
          cases hr : eitherR s n (i + 2) g with
          | no p => rw [hr] at h1; exact h1
          | yes x p g2 =>
            rw [hr] at h1
            obtain ⟨a1, a2, a3, a4⟩ := h1
            dsimp only
            split
            · rename_i h41
              have := seesB_lt h41
              exact ⟨by omega, by omega, by omega, a4⟩
            · exact a2
        · show i + 1 ≤ s.size
          omega
      · have h1 := ih.either i (g + 1) h hg
        cases hr : eitherR s n i (g + 1) with
        | no p => rw [hr] at h1; exact h1
        | yes x p g2 =>
          rw [hr] at h1
          obtain ⟨a1, a2, a3, a4⟩ := h1
          dsimp only
          split
          · rename_i h41
            have := seesB_lt h41
            exact ⟨by omega, by omega, by omega, by unfold WfN; exact a4⟩
          · exact a2
end Go.Proofs.YtmbkcmfcdjccoaaDoor
