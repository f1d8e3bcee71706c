/- Texts that belong together. -/
import Derived.Test.YtmbkcmfcdjccoaaDoorMP16
/- The reader of an expression: repeats; what may be said of the places. -/
namespace Go.Proofs.YtmbkcmfcdjccoaaDoor
open Go.RowKit Go.Maps

/-- The repeat behind a thing, if there is one. -/
theorem repeated_any (U p S0 : Nat) (s : ByteArray) (i g : Nat) (x : Nd) (w : World) (h : RdAt w U s i g) (hx : NdAt w (Fresh S0 w.heap.size) x p) (hU0 : U < S0) (hS : S0 ≤ w.heap.size) (h0 : 0 ≤ sizeN x) (hs : s.size ≤ 1000000) :
    Calls Tryd.prog 52 #[.pointer (some ⟨U, 0, none⟩), .pointer (some ⟨p, 0, none⟩)] w fun e w' => NdP w U s g S0 (repR s x i) e w' := by
  cases h42 : seesB s i 42 with
  | true => exact repeated_star U p S0 s i g x w h hx hU0 hS h0 hs h42
  | false =>
    cases h43 : seesB s i 43 with
    | true => exact repeated_plus U p S0 s i g x w h hx hU0 hS h0 hs h42 h43
    | false =>
      cases h63 : seesB s i 63 with
      | true => exact repeated_quest U p S0 s i g x w h hx hU0 hS h0 hs h42 h43 h63
      | false =>
        cases h123 : seesB s i 123 with
        | false => exact repeated_none U p S0 s i g x w h hx hU0 hS h0 hs h42 h43 h63 h123
        | true =>
          cases hc : countR s (i + 1) with
          | no q => exact repeated_refused U p S0 s i g x w h hx hU0 hS h0 hs h42 h43 h63 h123 q hc
          | yes r q =>
            obtain ⟨lo, hi⟩ := r
            by_cases hne : hi = -1
            · subst hne
              exact repeated_open U p S0 s i g x w h hx hU0 hS h0 hs h42 h43 h63 h123 lo q hc
            · exact repeated_closed U p S0 s i g x w h hx hU0 hS h0 hs h42 h43 h63 h123 lo hi hne q hc

mutual
/-- All repeats are right: the most is none, or not less than the least. -/
def WfN : Nd → Prop
  | .take _ _ => True
  | .start => True
  | .stop => True
  | .row l => WfsN l
  | .either a b => WfN a ∧ WfN b
  | .group _ a => WfN a
  | .plus a _ => WfN a
  | .times a lo hi _ => WfN a ∧ lo ≤ 100 ∧ -1 ≤ hi ∧ hi ≤ 100 ∧ (hi = -1 ∨ (lo : Int) ≤ hi)
def WfsN : List Nd → Prop
  | [] => True
  | a :: t => WfN a ∧ WfsN t
end
mutual
theorem wf_size : ∀ (x : Nd), WfN x → 0 ≤ sizeN x
  | .take l neg, _ => by unfold sizeN; decide
  | .start, _ => by unfold sizeN; decide
  | .stop, _ => by unfold sizeN; decide
  | .row l, h => by
    unfold WfN at h
    unfold sizeN
    exact wfs_size l h 0 (Int.le_refl _)
  | .either a b, h => by
    unfold WfN at h
    have h1 := wf_size a h.1
    have h2 := wf_size b h.2
    unfold sizeN capN
    omega
  | .group n a, h => by
    unfold WfN at h
    have h1 := wf_size a h
    unfold sizeN capN
    omega
  | .plus a lz, h => by
    unfold WfN at h
    have h1 := wf_size a h
    unfold sizeN capN
    omega
  | .times a lo hi lz, h => by
    unfold WfN at h
    obtain ⟨h0, h1, h2, h3, h4⟩ := h
    have hz := wf_size a h0
    have hzt := sizeN_top a
    obtain ⟨m0, m1⟩ := mul_in (a := lo) (b := sizeN a) (by omega) (by omega) hz (by omega)
    rw [sizeN_times]
    split
    · unfold capN; omega
    · obtain ⟨m2, m3⟩ := mul_in (a := hi - lo) (b := sizeN a + 1) (by omega) (by omega) (by omega) (by omega)
      unfold capN
      omega
theorem wfs_size : ∀ (l : List Nd), WfsN l → ∀ n, 0 ≤ n → 0 ≤ sizesN l n
  | [], _, n, hn => by unfold sizesN; exact hn
  | a :: t, h, n, hn => by
    unfold WfsN at h
    have h1 := wf_size a h.1
    unfold sizesN
    exact wfs_size t h.2 _ (by unfold capN; omega)
end
theorem wfs_push : ∀ (l : List Nd) (x : Nd), WfsN l → WfN x → WfsN (l ++ [x])
  | [], x, _, hx => by
    show WfsN [x]
    unfold WfsN WfsN
    exact ⟨hx, trivial⟩
  | a :: t, x, h, hx => by
    show WfsN (a :: (t ++ [x]))
    unfold WfsN at h ⊢
    exact ⟨h.1, wfs_push t x h.2 hx⟩
/-- What may be said of a thing with its repeat. -/
def RpOk (s : ByteArray) (i : Nat) : Rd Nd → Prop
  | .no p => p ≤ s.size
  | .yes x p => i ≤ p ∧ p ≤ s.size ∧ WfN x
theorem repR_ok {s : ByteArray} {i : Nat} (x : Nd) (h0 : WfN x) (hi : i ≤ s.size) : RpOk s i (repR s x i) := by
  have hov : ∀ j, j ≤ s.size → j ≤ overB s j 63 ∧ overB s j 63 ≤ s.size := fun j hj => ⟨by unfold overB; split <;> omega, overB_le hj 63⟩
  cases h42 : seesB s i 42 with
  | true =>
    have hlt := seesB_lt h42
    have := hov (i + 1) (by omega)
    rw [repR_star x h42]
    exact ⟨by omega, by omega, by unfold WfN; exact ⟨h0, by omega, by omega, by omega, Or.inl rfl⟩⟩
  | false =>
    cases h43 : seesB s i 43 with
    | true =>
      have hlt := seesB_lt h43
      have := hov (i + 1) (by omega)
      rw [repR_plus x h42 h43]
      exact ⟨by omega, by omega, by unfold WfN; exact h0⟩
    | false =>
      cases h63 : seesB s i 63 with
      | true =>
        have hlt := seesB_lt h63
        have := hov (i + 1) (by omega)
        rw [repR_quest x h42 h43 h63]
        exact ⟨by omega, by omega, by unfold WfN; exact ⟨h0, by omega, by omega, by omega, Or.inr (by decide)⟩⟩
      | false =>
        cases h123 : seesB s i 123 with
        | false =>
          rw [repR_none x h42 h43 h63 h123]
          exact ⟨Nat.le_refl _, hi, h0⟩
        | true =>
          have hlt := seesB_lt h123
          have hk := countR_ok (s := s) (i := i + 1) (by omega)
          rw [repR_brace x h42 h43 h63 h123]
          cases hc : countR s (i + 1) with
          | no q => rw [hc] at hk; exact hk.2
          | yes r q =>
            obtain ⟨lo, hi2⟩ := r
            rw [hc] at hk
            obtain ⟨k1, k2, k3, k4, k5, k6⟩ := hk
            have := hov q k2
            exact ⟨by omega, by omega, by unfold WfN; exact ⟨h0, k3, k4, k5, k6⟩⟩
/-- A class ends within the text. -/
theorem piecesR_ok {s : ByteArray} : ∀ (n i : Nat) (first : Bool) (acc : List Sp), i ≤ s.size → match piecesR s n i first acc with | .no p => p ≤ s.size | .yes _ p => i < p ∧ p ≤ s.size
  | 0, i, first, acc, hi => hi
  | n + 1, i, first, acc, hi => by
    unfold piecesR
    by_cases h : first = false ∧ seesB s i 93 = true
    · rw [if_pos h]
      have := seesB_lt h.2
      exact ⟨Nat.lt_succ_self _, this⟩
    · rw [if_neg h]
      have hp := pieceR_ok (s := s) (i := i) first hi
      cases hq : pieceR s i first with
      | no p => rw [hq] at hp; exact hp.2
      | yes l p =>
        rw [hq] at hp
        have ih := piecesR_ok n p false (acc ++ l) hp.2.1
        dsimp only
        cases hr : piecesR s n p false (acc ++ l) with
        | no q => rw [hr] at ih; exact ih
        | yes m q => rw [hr] at ih; exact ⟨by have := hp.1; have := ih.1; omega, ih.2⟩
theorem classR_ok {s : ByteArray} {i : Nat} (hi : i ≤ s.size) : match classR s i with | .no p => p ≤ s.size | .yes _ p => i < p ∧ p ≤ s.size := by
  unfold classR
  cases h94 : seesB s i 94 with
  | true =>
    have hlt := seesB_lt h94
    have h := piecesR_ok (s := s) (s.size + 1) (i + 1) true [] (by omega)
    rw [if_pos rfl]
    cases hr : piecesR s (s.size + 1) (i + 1) true [] with
    | no p => rw [hr] at h; exact h
    | yes l p => rw [hr] at h; exact ⟨by have := h.1; omega, h.2⟩
  | false =>
    have h := piecesR_ok (s := s) (s.size + 1) i true [] hi
    rw [if_neg (by simp)]
    cases hr : piecesR s (s.size + 1) i true [] with
    | no p => rw [hr] at h; exact h
    | yes l p => rw [hr] at h; exact h

/-- What may be said of parts that are read from a place on. -/
def PtOk (s : ByteArray) (i : Nat) : Pt Nd → Prop
  | .no p => p ≤ s.size
  | .yes x p g => i ≤ p ∧ p ≤ s.size ∧ g ≤ p ∧ WfN x
theorem PtOk.mono {s : ByteArray} {i j : Nat} {R : Pt Nd} (h : PtOk s j R) (hij : i ≤ j) : PtOk s i R := by
  cases R with
  | no p => exact h
  | yes x p g => exact ⟨by have := h.1; omega, h.2⟩
/-- One further, of each. -/
theorem either_one (s : ByteArray) (n i g : Nat) : eitherR s (n + 1) i g = match rowR s n i g [] with | .no p => .no p | .yes a p g2 => if seesB s p 124 = false then .yes a p g2 else match eitherR s n (p + 1) g2 with | .no q => .no q | .yes b q g3 => .yes (.either a b) q g3 := by rw [eitherR]; rfl
theorem row_one (s : ByteArray) (n i g : Nat) (acc : List Nd) : rowR s (n + 1) i g acc = if s.size ≤ i ∨ seesB s i 124 = true ∨ seesB s i 41 = true then .yes (.row acc) i g else match partR s n i g with | .no p => .no p | .yes a p g2 => rowR s n p g2 (acc ++ [a]) := by rw [rowR]; rfl
theorem part_one (s : ByteArray) (n i g : Nat) : partR s (n + 1) i g = if seesB s i 94 = true then .yes .start (i + 1) g else if seesB s i 36 = true then .yes .stop (i + 1) g else match thingR s n i g with | .no p => .no p | .yes x p g2 => match repR s x p with | .no q => .no q | .yes y q => .yes y q g2 := by rw [partR]; rfl
theorem thing_one (s : ByteArray) (n i g : Nat) : thingR s (n + 1) i g = if seesB s i 40 = true then bracketR s n (i + 1) g else if seesB s i 91 = true then (match classR s (i + 1) with | .no p => .no p | .yes (l, neg) p => .yes (.take l neg) p g) else if seesB s i 46 = true then .yes (.take [(0, maxR)] false) (i + 1) g else if seesB s i 92 = true then (match escR s (i + 1) with | .no p => .no p | .yes (l, _) p => .yes (.take l false) p g) else if ((s.data.toList[i]?).map specB).getD false = true then .no i else .yes (.take [((charR s i).1, (charR s i).1)] false) (i + (charR s i).2) g := by rw [thingR]; rfl
theorem bracket_one (s : ByteArray) (n i g : Nat) : bracketR s (n + 1) i g = if seesB s i 63 = true then (if seesB s (i + 1) 58 = true then (match eitherR s n (i + 2) g with | .no p => .no p | .yes x p g2 => if seesB s p 41 = true then .yes x (p + 1) g2 else .no p) else .no (i + 1)) else match eitherR s n i (g + 1) with | .no p => .no p | .yes x p g2 => if seesB s p 41 = true then .yes (.group (g + 1) x) (p + 1) g2 else .no p := by rw [bracketR]; rfl
/-- All five, at once. -/
structure AllOk (s : ByteArray) (n : Nat) : Prop where
  either : ∀ i g, i ≤ s.size → g ≤ i → PtOk s i (eitherR s n i g)
  row : ∀ i g acc, i ≤ s.size → g ≤ i → WfsN acc → PtOk s i (rowR s n i g acc)
  part : ∀ i g, i < s.size → g ≤ i → PtOk s (i + 1) (partR s n i g)
  thing : ∀ i g, i < s.size → g ≤ i → PtOk s (i + 1) (thingR s n i g)
  bracket : ∀ i g, i ≤ s.size → g + 1 ≤ i → PtOk s i (bracketR s n i g)
theorem sizeN_take (l : List Sp) (neg : Bool) : WfN (.take l neg) := by unfold WfN; trivial
theorem allOk (s : ByteArray) : ∀ n, AllOk s n
  | 0 => by
    refine ⟨fun i g h _ => ?_, fun i g acc h _ _ => ?_, fun i g h _ => ?_, fun i g h _ => ?_, fun i g h _ => ?_⟩
    · rw [eitherR]; exact h
    · rw [rowR]; exact h
    · rw [partR]; exact Nat.le_of_lt h
    · rw [thingR]; exact Nat.le_of_lt h
    · rw [bracketR]; exact h
  | n + 1 => by
    have ih := allOk s n
    refine ⟨fun i g h hg => ?_, fun i g acc h hg ha => ?_, fun i g h hg => ?_, fun i g h hg => ?_, fun i g h hg => ?_⟩
    · rw [either_one]
      have h1 := ih.row i g [] h hg (by unfold WfsN; trivial)
      cases hr : rowR s n i g [] with
      | no p => rw [hr] at h1; exact h1
      | yes a p g2 =>
        rw [hr] at h1
        obtain ⟨a1, a2, a3, a4⟩ := h1
        dsimp only
        split
        · exact ⟨a1, a2, a3, a4⟩
        · rename_i h124
          have hlt := seesB_lt (by simpa using h124 : seesB s p 124 = true)
          have h2 := ih.either (p + 1) g2 (by omega) (by omega)
          cases hq : eitherR s n (p + 1) g2 with
          | no q => rw [hq] at h2; exact h2
          | yes b q g3 =>
            rw [hq] at h2
            obtain ⟨b1, b2, b3, b4⟩ := h2
            exact ⟨by omega, b2, b3, by unfold WfN; exact ⟨a4, b4⟩⟩
    · rw [row_one]
      split
      · refine ⟨Nat.le_refl _, h, hg, ?_⟩
        unfold WfN
        exact ha
      · rename_i hc
        have hlt : i < s.size := by
          have : ¬ s.size ≤ i := fun h9 => hc (.inl h9)
          omega
        have h1 := ih.part i g hlt hg
        cases hr : partR s n i g with
        | no p => rw [hr] at h1; exact h1
        | yes a p g2 =>
          rw [hr] at h1
          obtain ⟨a1, a2, a3, a4⟩ := h1
          exact (ih.row p g2 (acc ++ [a]) a2 a3 (wfs_push acc a ha a4)).mono (by omega)
    · rw [part_one]
      split
      · exact ⟨Nat.le_refl _, h, by omega, by unfold WfN; trivial⟩
      · split
        · exact ⟨Nat.le_refl _, h, by omega, by unfold WfN; trivial⟩
        · have h1 := ih.thing i g h hg
          cases hr : thingR s n i g with
          | no p => rw [hr] at h1; exact h1
          | yes x p g2 =>
            rw [hr] at h1
            obtain ⟨a1, a2, a3, a4⟩ := h1
            have h2 := repR_ok (s := s) (i := p) x a4 a2
            dsimp only
            cases hq : repR s x p with
            | no q => rw [hq] at h2; exact h2
            | yes y q => rw [hq] at h2; exact ⟨by have := h2.1; omega, h2.2.1, by have := h2.1; omega, h2.2.2⟩
    · rw [thing_one]
      split
      · exact ih.bracket (i + 1) g (by omega) (by omega)
      · split
        · have h2 := classR_ok (s := s) (i := i + 1) (by omega)
          cases hq : classR s (i + 1) with
          | no q => rw [hq] at h2; exact h2
          | yes r q =>
            obtain ⟨l, neg⟩ := r
            rw [hq] at h2
            exact ⟨by have := h2.1; omega, h2.2, by have := h2.1; omega, sizeN_take _ _⟩
        · split
          · exact ⟨Nat.le_refl _, h, by omega, sizeN_take _ _⟩
          · split
            · have h2 := escR_ok (s := s) (i := i + 1) (by omega)
              cases hq : escR s (i + 1) with
              | no q => rw [hq] at h2; exact h2.2
              | yes r q =>
                obtain ⟨l, al⟩ := r
                rw [hq] at h2
                exact ⟨by have := h2.1; omega, h2.2.1, by have := h2.1; omega, sizeN_take _ _⟩
            · split
              · exact Nat.le_of_lt h
              · obtain ⟨k1, k2, k3⟩ := charR_ok h
                exact ⟨by omega, k2, by omega, sizeN_take _ _⟩
    · rw [bracket_one]
      split
      · rename_i h63
        have hlt := seesB_lt h63
        split
        · rename_i h58
          have hlt2 := seesB_lt h58
          have h1 := ih.either (i + 2) g (by omega) (by omega)
          cases hr : eitherR s n (i + 2) g with
          | no p => rw [hr] at h1; exact h1
          | yes x p g2 =>
            rw [hr] at h1
            obtain ⟨a1, a2, a3, a4⟩ := h1
            dsimp only
            split
            · rename_i h41
              have := seesB_lt h41
              exact ⟨by omega, by omega, by omega, a4⟩
            · exact a2
        · show i + 1 ≤ s.size
          omega
      · have h1 := ih.either i (g + 1) h hg
        cases hr : eitherR s n i (g + 1) with
        | no p => rw [hr] at h1; exact h1
        | yes x p g2 =>
          rw [hr] at h1
          obtain ⟨a1, a2, a3, a4⟩ := h1
          dsimp only
          split
          · rename_i h41
            have := seesB_lt h41
            exact ⟨by omega, by omega, by omega, by unfold WfN; exact a4⟩
          · exact a2
end Go.Proofs.YtmbkcmfcdjccoaaDoor

/- The reader of an expression: contracts of its parts; a part. -/
namespace Go.Proofs.YtmbkcmfcdjccoaaDoor
open Go.RowKit Go.Maps

def okT : Pt Nd → Bool
  | .no _ => false
  | .yes _ _ _ => true
/-- What lies in memory behind the reading of parts. -/
def PtQ (w : World) (U : Nat) (s : ByteArray) (R : Pt Nd) (x : Option Addr) (w' : World) : Prop := match R with
  | .no q => ∃ g, RdS w U s g w' q
  | .yes y q g => ∃ b, x = some ⟨b, 0, none⟩ ∧ RdS w U s g w' q ∧ NdAt w' (Fresh w.heap.size w'.heap.size) y b
/-- What reading parts comes to. -/
def PtP (w : World) (U : Nat) (s : ByteArray) (R : Pt Nd) (e : Ending) (w' : World) : Prop := ∃ x, e = .returned (.tuple #[.pointer x, .bool (okT R)]) ∧ PtQ w U s R x w'
section
variable {w W W' : World} {U : Nat} {s : ByteArray} {i j g g' : Nat}
theorem RdS.onto (H : RdS w U s g W i) (h : RdS W U s g' W' j) : RdS w U s g' W' j := ⟨h.rd, H.kept.two h.kept⟩
theorem RdS.up (H : RdS w U s g W i) {n : Nat} (hn : n ≤ w.heap.size) : n ≤ W.heap.size := Nat.le_trans hn H.size
/-- What lies in a footprint of one's own is kept. -/
theorem NdAt.kept {S0 : Nat} {y : Nd} {b : Nat} (h : NdAt W (Fresh S0 W.heap.size) y b) (hk : Kept (fun k => k = U) W W') (hU : U < S0) : NdAt W' (Fresh S0 W'.heap.size) y b :=
  NdAt.to (fun j hj => ⟨hj.1, Nat.lt_of_lt_of_le hj.2 hk.size⟩) (fun j hj => hk.block j hj.2 (fun (e : j = U) => by have := hj.1; omega)) y b h
theorem NdAt.wide {S0 S1 : Nat} {y : Nd} {b : Nat} (h : NdAt W (Fresh S1 W.heap.size) y b) (hS : S0 ≤ S1) : NdAt W (Fresh S0 W.heap.size) y b :=
  NdAt.to (fun _j hj => ⟨Nat.le_trans hS hj.1, hj.2⟩) (fun _j _hj => rfl) y b h
theorem PtQ.on {R : Pt Nd} {x : Option Addr} (H : RdS w U s g W i) (h : PtQ W U s R x W') : PtQ w U s R x W' := by
  cases R with
  | no q =>
    obtain ⟨g', h2⟩ := h
    exact ⟨g', H.onto h2⟩
  | yes y q g' =>
    obtain ⟨b, hx, h2, h3⟩ := h
    exact ⟨b, hx, H.onto h2, h3.wide H.size⟩
theorem PtP.on {R : Pt Nd} {e : Ending} (H : RdS w U s g W i) (h : PtP W U s R e W') : PtP w U s R e W' := by
  obtain ⟨x, he, hq⟩ := h
  exact ⟨x, he, hq.on H⟩
end
/-- A function that reads parts, from any place on. -/
def PtC (f : FuncId) (s : ByteArray) (i g : Nat) (R : Pt Nd) : Prop := ∀ U B w, RdAt w U s i g → Env8 w B → B ≤ U → Calls Tryd.prog f #[.pointer (some ⟨U, 0, none⟩)] w fun e w' => PtP w U s R e w'
theorem PtC.is {f : FuncId} {s : ByteArray} {i g : Nat} {R : Pt Nd} (hC : PtC f s i g R) {w : World} {U B : Nat} (hE : Env8 w B) (hB : B ≤ U) (hBw : B ≤ w.heap.size) : Hid (∀ W, RdS w U s g W i → Calls Tryd.prog f #[.pointer (some ⟨U, 0, none⟩)] W fun e w' => ∃ x, e = .returned (.tuple #[.pointer x, .bool (okT R)]) ∧ PtQ w U s R x w') := fun W hW =>
  (hC U B W hW.rd (hE.kept hW.kept hB hBw) hB).mono (fun _e _w' h => PtP.on hW h)
/-- All five, at once. -/
structure AllC (s : ByteArray) (n : Nat) : Prop where
  either : ∀ i g, i ≤ s.size → g ≤ i → 5 * (s.size - i) + 2 ≤ n → PtC 25 s i g (eitherR s n i g)
  row : ∀ i g, i ≤ s.size → g ≤ i → 5 * (s.size - i) + 1 ≤ n → PtC 32 s i g (rowR s n i g [])
  part : ∀ i g, i < s.size → g ≤ i → 5 * (s.size - i) ≤ n → PtC 45 s i g (partR s n i g)
  thing : ∀ i g, i < s.size → g ≤ i → 5 * (s.size - i) ≤ n + 1 → PtC 51 s i g (thingR s n i g)
  bracket : ∀ i g, i ≤ s.size → g + 1 ≤ i → 5 * (s.size - i) + 3 ≤ n → PtC 53 s i g (bracketR s n i g)

def withG (g : Nat) : Rd Nd → Pt Nd
  | .no q => .no q
  | .yes y q => .yes y q g
theorem repeated_is {w : World} {U : Nat} {s : ByteArray} {i g : Nat} {x : Nd} (hU : U < w.heap.size) (h0 : 0 ≤ sizeN x) (hs : s.size ≤ 1000000) : Hid (∀ W a b, a = some ⟨b, 0, none⟩ → RdS w U s g W i → NdAt W (Fresh w.heap.size W.heap.size) x b → Calls Tryd.prog 52 #[.pointer (some ⟨U, 0, none⟩), .pointer a] W fun e w' => ∃ x', e = .returned (.tuple #[.pointer x', .bool (okT (withG g (repR s x i)))]) ∧ PtQ w U s (withG g (repR s x i)) x' w') := fun W a b ha hW hx => by
  subst ha
  refine (repeated_any U b w.heap.size s i g x W hW.rd hx hU hW.size h0 hs).mono ?_
  intro e w' h
  cases hr : repR s x i with
  | no q =>
    rw [hr] at h
    obtain ⟨⟨x', he⟩, h2⟩ := h
    exact ⟨x', he, g, hW.onto h2⟩
  | yes y q =>
    rw [hr] at h
    obtain ⟨b', he, h2, h3, h4⟩ := h
    exact ⟨_, he, b', rfl, hW.onto h2, h3⟩
section
variable {w W : World} {U : Nat} {s : ByteArray} {i g : Nat}
theorem RdS.made (H : RdS w U s g W i) (o : Obj) : RdS w U s g (W.alloc o) i := H.below ((Below.refl _ _).alloc (Nat.le_refl _) _)
theorem fresh_new (H : RdS w U s g W i) (o : Obj) : Fresh w.heap.size (W.alloc o).heap.size W.heap.size := ⟨H.size, by simp⟩
end

set_option maxRecDepth 100000 in
set_option maxHeartbeats 4000000 in
theorem part_next {s : ByteArray} {n : Nat} (hT : ∀ i g, i < s.size → g ≤ i → 5 * (s.size - i) ≤ n + 1 → PtC 51 s i g (thingR s n i g)) (hs : s.size ≤ 10000) :
    ∀ i g, i < s.size → g ≤ i → 5 * (s.size - i) ≤ n + 1 → PtC 45 s i g (partR s (n + 1) i g) := by
  intro i g hi hg hn U B w h hE hB
  have hU := h.lt
  have hsm : s.size ≤ 1000000 := by omega
  have HS : Hid (RdS w U s g w i) := RdS.start h
  have HT := (hT i g hi hg hn).is hE hB (by omega)
  have hok := (allOk s n).thing i g hi hg
  rw [part_one]
  clear h hE hT
  cases h94 : seesB s i 94 with
  | true =>
    rw [if_pos rfl]
    have HK := skip_yes (w := w) (U := U) (g := g) 94 h94 hsm
    clear HT hok
    go_enter Tryd.func45, Tryd.ntmps45
    go_wp2_with (go_at_call 33; refine (HK.out _ HS.out).mono ?_; clear HK HS; rintro e w1 ⟨rfl, hl⟩; have HS : Hid (RdS w U s g w1 (i + 1)) := hl; clear hl)
    go_ret2
    exact ⟨_, rfl, _, rfl, HS.out.made _, by unfold NdAt; exact ⟨fresh_new HS.out _, heap_alloc_new _ _⟩⟩
  | false =>
    rw [if_neg (by simp)]
    have HK := skip_no (w := w) (U := U) (g := g) 94 h94 hsm
    cases h36 : seesB s i 36 with
    | true =>
      rw [if_pos rfl]
      have HK2 := skip_yes (w := w) (U := U) (g := g) 36 h36 hsm
      clear HT hok
      go_enter Tryd.func45, Tryd.ntmps45
      go_wp2_with (first
        | (go_at_call 33; refine (HK.out _ HS.out).mono ?_; clear HK HS; rintro e w1 ⟨rfl, hl⟩; have HS : Hid (RdS w U s g w1 i) := hl; clear hl)
        | (go_at_call 33; refine (HK2.out _ HS.out).mono ?_; clear HK2 HS; rintro e w2 ⟨rfl, hl⟩; have HS : Hid (RdS w U s g w2 (i + 1)) := hl; clear hl))
      go_ret2
      exact ⟨_, rfl, _, rfl, HS.out.made _, by unfold NdAt; exact ⟨fresh_new HS.out _, heap_alloc_new _ _⟩⟩
    | false =>
      rw [if_neg (by simp)]
      have HK2 := skip_no (w := w) (U := U) (g := g) 36 h36 hsm
      cases hr : thingR s n i g with
      | no q =>
        rw [hr] at HT
        have HT2 : Hid (∀ W, RdS w U s g W i → Calls Tryd.prog 51 #[.pointer (some ⟨U, 0, none⟩)] W fun e w' => ∃ x, e = .returned (.tuple #[.pointer x, .bool false]) ∧ PtQ w U s (.no q) x w') := HT.out
        clear HT hok hr
        dsimp only
        go_enter Tryd.func45, Tryd.ntmps45
        go_wp2_with (first
          | (go_at_call 33; refine (HK.out _ HS.out).mono ?_; clear HK HS; rintro e w1 ⟨rfl, hl⟩; have HS : Hid (RdS w U s g w1 i) := hl; clear hl)
          | (go_at_call 33; refine (HK2.out _ HS.out).mono ?_; clear HK2 HS; rintro e w2 ⟨rfl, hl⟩; have HS : Hid (RdS w U s g w2 i) := hl; clear hl)
          | (go_at_call 51; refine (HT2.out _ HS.out).mono ?_; clear HT2 HS; rintro e w3 ⟨x, rfl, hl⟩; have HQ : Hid (PtQ w U s (.no q) x w3) := hl; clear hl))
        go_ret2
        exact ⟨_, rfl, HQ.out⟩
      | yes x p g2 =>
        rw [hr] at HT hok
        obtain ⟨o1, o2, o3, o4⟩ := hok
        have HT2 : Hid (∀ W, RdS w U s g W i → Calls Tryd.prog 51 #[.pointer (some ⟨U, 0, none⟩)] W fun e w' => ∃ a, e = .returned (.tuple #[.pointer a, .bool true]) ∧ ∃ b, a = some ⟨b, 0, none⟩ ∧ RdS w U s g2 w' p ∧ NdAt w' (Fresh w.heap.size w'.heap.size) x b) := HT.out
        have HR := repeated_is (w := w) (U := U) (s := s) (i := p) (g := g2) (x := x) hU (wf_size x o4) hsm
        clear HT hr
        have hR : (match repR s x p with | .no q => Pt.no q | .yes y q => Pt.yes y q g2) = withG g2 (repR s x p) := by cases repR s x p <;> rfl
        show Calls _ _ _ _ fun e w' => PtP w U s (match repR s x p with | .no q => Pt.no q | .yes y q => Pt.yes y q g2) e w'
        rw [hR]
        clear hR
        generalize withG g2 (repR s x p) = R at *
        go_enter Tryd.func45, Tryd.ntmps45
        go_wp2_with (first
          | (go_at_call 33; refine (HK.out _ HS.out).mono ?_; clear HK HS; rintro e w1 ⟨rfl, hl⟩; have HS : Hid (RdS w U s g w1 i) := hl; clear hl)
          | (go_at_call 33; refine (HK2.out _ HS.out).mono ?_; clear HK2 HS; rintro e w2 ⟨rfl, hl⟩; have HS : Hid (RdS w U s g w2 i) := hl; clear hl)
          | (go_at_call 51; refine (HT2.out _ HS.out).mono ?_; clear HT2 HS; rintro e w3 ⟨a, rfl, b, hab, hl, hnd⟩; have HX : Hid (a = some ⟨b, 0, none⟩ ∧ RdS w U s g2 w3 p ∧ NdAt w3 (Fresh w.heap.size w3.heap.size) x b) := ⟨hab, hl, hnd⟩; clear hab hl hnd)
          | (go_at_call 52; refine (HR.out _ _ _ HX.out.1 HX.out.2.1 HX.out.2.2).mono ?_; clear HR HX; rintro e w4 ⟨x', rfl, hl⟩; have HQ : Hid (PtQ w U s R x' w4) := hl; clear hl))
        go_ret2
        exact ⟨_, rfl, HQ.out⟩
end Go.Proofs.YtmbkcmfcdjccoaaDoor
