/- The document's All, as lists. -/
import Derived.Test.YtkmclgbiedbfpaaDoorVl
namespace Go.Proofs.YtkmclgbiedbfpaaDoor
open Go.RowKit

def cz (r : List Bool) : Nat := match takeChange r with | some p => p.1 | none => 0
def timed (s : An) (c : Nat) : An := { s with d := (s.d + c) % 18446744073709551616, t := (s.t + (s.d + c) % 18446744073709551616) % 18446744073709551616 }
theorem next_change {s : An} {r r1 : List Bool} {c : Nat} (h : takeChange r = some (c, r1)) : nextD false s r = takeValue (timed s c) r1 := by
  unfold nextD takeTime
  rw [if_neg (by decide), h]
  rfl
theorem next_none {s : An} {r : List Bool} (h : takeChange r = none) : nextD false s r = none := by
  unfold nextD takeTime
  rw [if_neg (by decide), h]
  rfl
theorem dr_cases (r : List Bool) : (dr (some r) = none ∧ takeChange r = none) ∨ ∃ r1, dr (some r) = some r1 ∧ takeChange r = some (cz r, r1) := by
  have e : dr (some r) = (takeChange r).map fun p => p.2 := rfl
  rw [e]
  unfold cz
  cases h : takeChange r with
  | none => exact Or.inl ⟨rfl, rfl⟩
  | some p => exact Or.inr ⟨p.2, rfl, rfl⟩
def NextR (s : An) (r : List Bool) (o' : Option (List Bool)) (s' : An) : Prop := nextD false s r = o'.map fun r' => (s', r')
theorem next_no {s : An} {r : List Bool} (h : gv 1 (dr (some r)) ≠ 1) : NextR s r (gr 1 (dr (some r))) (timed s (cz r)) := by
  unfold NextR
  rcases dr_cases r with ⟨h1, h2⟩ | ⟨r1, h1, h2⟩
  · rw [h1, next_none h2]
    rfl
  · rw [h1] at h ⊢
    rw [next_change h2, value_no h]
theorem some_of_one {o : Option (List Bool)} (h : gv 1 o = 1) : ∃ r, o = some r := by
  cases o with
  | none => rw [gv_none] at h; cases h
  | some r => exact ⟨r, rfl⟩
theorem next_old {s : An} {r : List Bool} (h : gv 1 (dr (some r)) = 1) (h2 : gv 1 (gr 1 (dr (some r))) ≠ 1) (hz : 0 < s.size) :
    NextR s r (gr s.size (gr 1 (gr 1 (dr (some r))))) { timed s (cz r) with v := s.v ^^^ (gv s.size (gr 1 (gr 1 (dr (some r)))) <<< (64 - s.lead - s.size)) } := by
  unfold NextR
  rcases dr_cases r with ⟨h3, h4⟩ | ⟨r1, h3, h4⟩
  · rw [h3] at h
    cases h
  · rw [h3] at h h2 ⊢
    rw [next_change h4, value_old h h2, if_neg (by show ¬ s.size = 0; omega)]
    rfl
theorem next_blind {s : An} {r : List Bool} (h : gv 1 (dr (some r)) = 1) (h2 : gv 1 (gr 1 (dr (some r))) ≠ 1) (hz : s.size = 0) (s' : An) : NextR s r none s' := by
  unfold NextR
  rcases dr_cases r with ⟨h3, h4⟩ | ⟨r1, h3, h4⟩
  · rw [h3] at h
    cases h
  · rw [h3] at h h2
    rw [next_change h4, value_old h h2, if_pos (by show s.size = 0; exact hz)]
    rfl
theorem next_new {s : An} {r : List Bool} (h : gv 1 (dr (some r)) = 1) (h2 : gv 1 (gr 1 (dr (some r))) = 1) (o3 o4 o5 : Option (List Bool)) (h3 : o3 = gr 1 (gr 1 (dr (some r)))) (h4 : o4 = gr 5 o3) (h5 : o5 = gr 6 o4) (hz : gv 5 o3 + gv 6 o4 ≤ 63) :
    NextR s r (gr (gv 6 o4 + 1) o5) { timed s (cz r) with lead := gv 5 o3, size := gv 6 o4 + 1, v := s.v ^^^ (gv (gv 6 o4 + 1) o5 <<< (63 - gv 5 o3 - gv 6 o4)) } := by
  unfold NextR
  rcases dr_cases r with ⟨h6, h7⟩ | ⟨r1, h6, h7⟩
  · rw [h6] at h
    cases h
  · rw [h6] at h h2 h3
    rw [next_change h7, value_new h h2 o3 o4 o5 h3 h4 h5, if_pos hz]
    rfl
theorem next_wide {s : An} {r : List Bool} (h : gv 1 (dr (some r)) = 1) (h2 : gv 1 (gr 1 (dr (some r))) = 1) (o3 o4 : Option (List Bool)) (h3 : o3 = gr 1 (gr 1 (dr (some r)))) (h4 : o4 = gr 5 o3) (hz : 63 < gv 5 o3 + gv 6 o4) (s' : An) : NextR s r none s' := by
  unfold NextR
  rcases dr_cases r with ⟨h6, h7⟩ | ⟨r1, h6, h7⟩
  · rw [h6] at h
    cases h
  · rw [h6] at h h2 h3
    rw [next_change h7, value_new h h2 o3 o4 _ h3 h4 rfl, if_neg (by omega)]
    rfl
theorem wrap_add_sg (a b c : UInt64) (h : c.toNat = (a.toNat + b.toNat) % 18446744073709551616) : IntKind.i64.wrap (sg a + sg b) = sg c := by
  have ha := a.toNat_lt
  have hb := b.toNat_lt
  rw [IntWalk.i64_left]
  unfold wrap64 sg
  rw [h]
  split <;> split <;> split <;> omega
theorem ofNat_nat {n : Nat} (h : n < 18446744073709551616) : (UInt64.ofNat n).toNat = n := by rw [UInt64.toNat_ofNat']; omega
/-- the document's lead and tail -/
def WinR (s : An) (lv tv : Int) : Prop := (s.size = 0 ∧ lv = -1 ∧ tv = -1) ∨ (0 < s.size ∧ lv = (s.lead : Int) ∧ tv = ((64 - s.lead - s.size : Nat) : Int))
/-- how far All has come: so many samples told, what is left of the bits, what is known of the last -/
def StA (bs : List UInt8) (n k : Nat) (pre : List Sm) (o : Option (List Bool)) (s : An) (L T D : Int) : Prop :=
  match o with
  | none => decR bs = pre
  | some r => decR bs = pre ++ decL (n - k) (decide (k = 0)) s r ∧ D = sg (UInt64.ofNat s.d) ∧ WinR s L T ∧ Good s ∧ (k ≠ 0 → ∃ pre', pre = pre' ++ [(UInt64.ofNat s.t, UInt64.ofNat s.v)]) ∧ (k = 0 → s = An.zero)
theorem Good.timed {s : An} (h : Good s) (c : Nat) : Good (timed s c) := ⟨Nat.mod_lt _ (by decide), Nat.mod_lt _ (by decide), h.v, h.lead, h.win⟩
/-- one sample further -/
theorem StA.more {bs : List UInt8} {n k : Nat} {pre : List Sm} {r : List Bool} {s : An} {L T D : Int} (h : StA bs n k pre (some r) s L T D) (hk : k < n) (h0 : k ≠ 0) {o' : Option (List Bool)} {s' : An} (hn : NextR s r o' s') {L' T' D' : Int}
    (hg : Good s') (hw : WinR s' L' T') (hd : ∀ r', o' = some r' → D' = sg (UInt64.ofNat s'.d)) :
    StA bs n (k + 1) (match o' with | none => pre | some _ => pre ++ [(UInt64.ofNat s'.t, UInt64.ofNat s'.v)]) o' s' L' T' D' := by
  obtain ⟨h1, h2, h3, h4, h5, h6⟩ := h
  have e : n - k = (n - (k + 1)) + 1 := by omega
  rw [e, decL, decide_eq_false h0] at h1
  unfold NextR at hn
  rw [hn] at h1
  cases o' with
  | none =>
    show decR bs = pre
    rw [h1]
    simp
  | some r' =>
    refine ⟨?_, hd r' rfl, hw, hg, fun _ => ⟨pre, rfl⟩, fun h => absurd h (Nat.succ_ne_zero k)⟩
    rw [h1, List.append_assoc]
    rfl
/-- the first sample -/
theorem StA.first {bs : List UInt8} {n : Nat} {pre : List Sm} {r : List Bool} {s : An} {L T D : Int} (h : StA bs n 0 pre (some r) s L T D) (hk : 0 < n) :
    StA bs n 1 (match gr 64 (gr 64 (some r)) with | none => pre | some _ => pre ++ [(UInt64.ofNat (gv 64 (some r)), UInt64.ofNat (gv 64 (gr 64 (some r))))]) (gr 64 (gr 64 (some r))) { s with t := gv 64 (some r), v := gv 64 (gr 64 (some r)) } L T D := by
  obtain ⟨h1, h2, h3, h4, h5, h6⟩ := h
  have e : n - 0 = (n - 1) + 1 := by omega
  rw [e, decL, decide_eq_true rfl] at h1
  have hn : nextD true s r = (gr 64 (gr 64 (some r))).map fun r' => ({ s with t := gv 64 (some r), v := gv 64 (gr 64 (some r)) }, r') := by
    unfold nextD
    rw [if_pos rfl, takeN_gr]
    cases h7 : gr 64 (some r) with
    | none => rfl
    | some r1 =>
      rw [Option.map_some, Option.bind_some]
      dsimp only
      rw [takeN_gr]
      cases h8 : gr 64 (some r1) <;> rfl
  rw [hn] at h1
  cases h9 : gr 64 (gr 64 (some r)) with
  | none =>
    rw [h9] at h1
    show decR bs = pre
    rw [h1]
    simp
  | some r' =>
    rw [h9] at h1
    refine ⟨?_, h2, h3, ⟨gv_lt 64 (some r), h4.d, gv_lt 64 (gr 64 (some r)), h4.lead, h4.win⟩, fun _ => ⟨pre, rfl⟩, fun h => absurd h (by decide)⟩
    rw [h1, List.append_assoc]
    rfl
/-- the beginning -/
theorem StA.begin (bs : List UInt8) : StA bs (gv 16 (some (ub bs))) 0 [] (gr 16 (some (ub bs))) An.zero (-1) (-1) 0 := by
  match bs with
  | [] => exact rfl
  | [a] => exact rfl
  | a :: b :: t =>
    have e1 : gr 16 (some (ub (a :: b :: t))) = some (ub t) := by
      rw [gr_def, if_pos (by rw [ub_length]; simp; omega), show (16 : Nat) = 8 * 2 from rfl, ub_drop8]
      rfl
    have e2 : gv 16 (some (ub (a :: b :: t))) = a.toNat * 256 + b.toNat := by
      rw [gv_def, if_pos (by rw [ub_length]; simp; omega), ub_cons, ub_cons, ← List.append_assoc, List.take_left' (by rw [List.length_append, wb_length, wb_length]), vb_append, vb_wb, vb_wb, wb_length]
      have ha := a.toNat_lt
      have hb := b.toNat_lt
      omega
    rw [e1, e2]
    exact ⟨by simp [decR], rfl, Or.inl ⟨rfl, rfl, rfl⟩, Good.zero, fun h => absurd rfl h, fun _ => rfl⟩
theorem StA.done {bs : List UInt8} {n k : Nat} {pre : List Sm} {o : Option (List Bool)} {s : An} {L T D : Int} (h : StA bs n k pre o s L T D) (hk : o = none ∨ k = n) : decR bs = pre := by
  cases o with
  | none => exact h
  | some r =>
    rcases hk with hk | rfl
    · cases hk
    · rw [h.1, Nat.sub_self]
      simp [decL]

end Go.Proofs.YtkmclgbiedbfpaaDoor
