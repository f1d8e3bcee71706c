/- next, parts. -/
import Derived.Test.YtkmclgbiedbfpaaDoorKe
namespace Go.Proofs.YtkmclgbiedbfpaaDoor
open Go.RowKit Go.Maps Go.Shelf

theorem Good.takeTime {s s' : An} {r r' : List Bool} (hg : Good s) (h : takeTime s r = some (s', r')) : Good s' := by
  unfold Go.Proofs.YtkmclgbiedbfpaaDoor.takeTime at h
  cases hc : takeChange r with
  | none => rw [hc] at h; cases h
  | some p =>
    rw [hc] at h
    cases h
    exact ⟨Nat.mod_lt _ (by decide), Nat.mod_lt _ (by decide), hg.v, hg.lead, hg.win⟩
theorem Good.takeX {s s' : An} {r r' : List Bool} (hg : Good s) (h : takeX s r = some (s', r')) : Good s' := by
  unfold Go.Proofs.YtkmclgbiedbfpaaDoor.takeX at h
  split at h
  · cases h
  · cases hx : takeN s.size r with
    | none => rw [hx] at h; cases h
    | some p =>
      rw [hx] at h
      cases h
      have hw := hg.win
      have hlt := takeN_lt (x := p.1) (t := p.2) hx
      exact ⟨hg.t, hg.d, xor_lt hg.v (shl_val hlt (show s.size + (64 - s.lead - s.size) ≤ 64 by omega)).2, hg.lead, hg.win⟩
theorem Good.takeValue {s s' : An} {r r' : List Bool} (hg : Good s) (h : takeValue s r = some (s', r')) : Good s' := by
  match r, h with
  | false :: r, h => cases h; exact hg
  | true :: false :: r, h => exact hg.takeX h
  | true :: true :: r, h =>
    have h' : (takeWin s r).bind (fun p => Go.Proofs.YtkmclgbiedbfpaaDoor.takeX p.1 p.2) = some (s', r') := h
    cases hw : takeWin s r with
    | none => rw [hw] at h'; cases h'
    | some p =>
      rw [hw, Option.bind_some] at h'
      have hp : takeWin s r = some (p.1, p.2) := hw
      have hs : p.1.t = s.t ∧ p.1.d = s.d := by
        unfold takeWin at hp
        cases h5 : takeN 5 r with
        | none => rw [h5] at hp; cases hp
        | some a =>
          rw [h5, Option.bind_some] at hp
          cases h6 : takeN 6 a.2 with
          | none => rw [h6] at hp; cases hp
          | some b =>
            rw [h6, Option.bind_some] at hp
            split at hp
            · have := congrArg Prod.fst (Option.some.inj hp)
              rw [← this]
              exact ⟨rfl, rfl⟩
            · cases hp
      obtain ⟨h1, h2, h3, h4⟩ := takeWin_some hp
      exact Good.takeX (s := p.1) ⟨by rw [hs.1]; exact hg.t, by rw [hs.2]; exact hg.d, by rw [h1]; exact hg.v, h3, h4⟩ h'
theorem Good.next {s s' : An} {f : Bool} {r r' : List Bool} (hg : Good s) (h : nextD f s r = some (s', r')) : Good s' := by
  unfold nextD at h
  split at h
  · cases h1 : takeN 64 r with
    | none => rw [h1] at h; cases h
    | some p =>
      rw [h1, Option.bind_some] at h
      cases h2 : takeN 64 p.2 with
      | none => rw [h2] at h; cases h
      | some q =>
        rw [h2] at h
        cases h
        exact ⟨takeN_lt (x := p.1) (t := p.2) h1, hg.d, takeN_lt (x := q.1) (t := q.2) h2, hg.lead, hg.win⟩
  · cases h1 : Go.Proofs.YtkmclgbiedbfpaaDoor.takeTime s r with
    | none => rw [h1] at h; cases h
    | some p =>
      rw [h1, Option.bind_some] at h
      exact (hg.takeTime (s' := p.1) (r' := p.2) h1).takeValue h

set_option maxRecDepth 100000 in
set_option maxHeartbeats 2000000 in
theorem next_any (w : World) (U : Nat) (v : Value) (ys : List UInt8) (p : Nat) (s : An) (f : Bool) (h : Rd w U v ys p s) (hg : Good s) (hS : Steps w) (hU : U ≠ 1) :
    Calls Tryd.prog 50 #[.pointer (some ⟨U, 0, none⟩), .bool f] w fun e w' => Says w U v ys (nextD f s ((ub ys).drop p)) e w' := by
  cases f with
  | true =>
    have HSET : Hid (∀ (W : World) (p' a b : Nat), Rd W U v ys p' s → Rd ((W.setCell ⟨U, 2, none⟩ (.int .u64 a)).setCell ⟨U, 4, none⟩ (.int .u64 b)) U v ys p' { s with t := a, v := b } ∧ Kept (fun k => k = U) W ((W.setCell ⟨U, 2, none⟩ (.int .u64 a)).setCell ⟨U, 4, none⟩ (.int .u64 b))) := fun W p' a b hr => by
      have hk : Kept (fun k => k = U) W ((W.setCell ⟨U, 2, none⟩ (.int .u64 a)).setCell ⟨U, 4, none⟩ (.int .u64 b)) := ((Kept.refl (fun k => k = U) W).un 2 _).un 4 _
      exact ⟨hr.kept hk (Un.set (s := { s with t := a }) (Un.set hr.un 2 _ p' { s with t := a } rfl) 4 _ p' { s with t := a, v := b } rfl) hr.le, hk⟩
    cases h1 : takeN 64 ((ub ys).drop p) with
    | none =>
      have ht := take_none (width := 64) h (by omega) h1
      have HT2 : Hid (∀ W, Rd W U v ys p s → Calls Tryd.prog 53 #[.pointer (some ⟨U, 0, none⟩), .int .i64 64] W fun e w' => e = .returned (.tuple #[.int .u64 0, .bool false]) ∧ Rd w' U v ys p s ∧ Kept (fun k => k = U) W w') := fun W h9 => take_none (width := 64) h9 (by omega) h1
      have HN : Hid (nextD true s ((ub ys).drop p) = none) := by show _ = _; unfold nextD; rw [if_pos rfl, h1]; rfl
      clear h h1 hS
      go_enter Tryd.func50, Tryd.ntmps50
      go_wp2_with (first
        | (go_at_call 53; refine ht.mono ?_; clear ht; rintro e w1 ⟨rfl, hr1, hk1⟩; have HR1 : Hid (Rd w1 U v ys p s) := hr1; have HK1 : Hid (Kept (fun k => k = U) w w1) := hk1; clear hr1 hk1)
        | (go_at_call 53; refine (HT2.out w1 HR1.out).mono ?_; clear HT2; rintro e w2 ⟨rfl, hr2, hk2⟩; obtain ⟨-, -, c2, -, c4, -, -, cf⟩ := hr2.un.cells; have f2 := cf 2; have f4 := cf 4; have HR2 : Hid (Rd w2 U v ys p s) := hr2; have HK2 : Hid (Kept (fun k => k = U) w w2) := keptU HK1.out hk2; clear hr2 hk2 cf))
      go_ret
      obtain ⟨hr9, hk9⟩ := HSET.out w2 p 0 0 HR2.out
      exact Says.no HN.out hr9 (keptU HK2.out hk9)
    | some ar =>
      obtain ⟨a, r1⟩ := ar
      have ht := take_some (width := 64) h (by omega) h1
      clear h hS
      cases h2 : takeN 64 r1 with
      | none =>
        have HT2 : Hid (∀ W, Rd W U v ys (p + 64) s → (ub ys).drop (p + 64) = r1 → Calls Tryd.prog 53 #[.pointer (some ⟨U, 0, none⟩), .int .i64 64] W fun e w' => e = .returned (.tuple #[.int .u64 0, .bool false]) ∧ Rd w' U v ys (p + 64) s ∧ Kept (fun k => k = U) W w') := fun W h9 h8 => take_none (width := 64) h9 (by omega) (by rw [h8]; exact h2)
        have HN : Hid (nextD true s ((ub ys).drop p) = none) := by show _ = _; unfold nextD; rw [if_pos rfl, h1, Option.bind_some, h2]; rfl
        clear h1 h2
        go_enter Tryd.func50, Tryd.ntmps50
        go_wp2_with (first
          | (go_at_call 53; refine ht.mono ?_; clear ht; rintro e w1 ⟨rfl, hr1, hk1, hd1, hx1⟩; have HR1 : Hid (Rd w1 U v ys (p + 64) s) := hr1; have HK1 : Hid (Kept (fun k => k = U) w w1) := hk1; have HD1 : Hid ((ub ys).drop (p + 64) = r1) := hd1; clear hr1 hk1 hd1 hx1)
          | (go_at_call 53; refine (HT2.out w1 HR1.out HD1.out).mono ?_; clear HT2; rintro e w2 ⟨rfl, hr2, hk2⟩; obtain ⟨-, -, c2, -, c4, -, -, cf⟩ := hr2.un.cells; have f2 := cf 2; have f4 := cf 4; have HR2 : Hid (Rd w2 U v ys (p + 64) s) := hr2; have HK2 : Hid (Kept (fun k => k = U) w w2) := keptU HK1.out hk2; clear hr2 hk2 cf))
        go_ret
        obtain ⟨hr9, hk9⟩ := HSET.out w2 (p + 64) a 0 HR2.out
        exact Says.no HN.out hr9 (keptU HK2.out hk9)
      | some br =>
        obtain ⟨b, r2⟩ := br
        have HT2 : Hid (∀ W, Rd W U v ys (p + 64) s → (ub ys).drop (p + 64) = r1 → Calls Tryd.prog 53 #[.pointer (some ⟨U, 0, none⟩), .int .i64 64] W fun e w' => e = .returned (.tuple #[.int .u64 b, .bool true]) ∧ Rd w' U v ys (p + 64 + 64) s ∧ Kept (fun k => k = U) W w' ∧ (ub ys).drop (p + 64 + 64) = r2 ∧ b < 2 ^ 64) := fun W h9 h8 => take_some (width := 64) h9 (by omega) (by rw [h8]; exact h2)
        have HN : Hid (nextD true s ((ub ys).drop p) = some ({ s with t := a, v := b }, r2)) := by show _ = _; unfold nextD; rw [if_pos rfl, h1, Option.bind_some, h2]; rfl
        clear h1 h2
        go_enter Tryd.func50, Tryd.ntmps50
        go_wp2_with (first
          | (go_at_call 53; refine ht.mono ?_; clear ht; rintro e w1 ⟨rfl, hr1, hk1, hd1, hx1⟩; have HR1 : Hid (Rd w1 U v ys (p + 64) s) := hr1; have HK1 : Hid (Kept (fun k => k = U) w w1) := hk1; have HD1 : Hid ((ub ys).drop (p + 64) = r1) := hd1; clear hr1 hk1 hd1 hx1)
          | (go_at_call 53; refine (HT2.out w1 HR1.out HD1.out).mono ?_; clear HT2; rintro e w2 ⟨rfl, hr2, hk2, hd2, hx2⟩; obtain ⟨-, -, c2, -, c4, -, -, cf⟩ := hr2.un.cells; have f2 := cf 2; have f4 := cf 4; have HR2 : Hid (Rd w2 U v ys (p + 64 + 64) s) := hr2; have HK2 : Hid (Kept (fun k => k = U) w w2) := keptU HK1.out hk2; have HD2 : Hid ((ub ys).drop (p + 64 + 64) = r2) := hd2; clear hr2 hk2 cf hd2 hx2))
        go_ret
        obtain ⟨hr9, hk9⟩ := HSET.out w2 (p + 64 + 64) a b HR2.out
        exact Says.yes HN.out hr9 (keptU HK2.out hk9) HD2.out
  | false =>
    have ht := takeTime_any w U v ys p s h hg hS hU
    cases h1 : takeTime s ((ub ys).drop p) with
    | none =>
      have HN : Hid (nextD false s ((ub ys).drop p) = none) := by show _ = _; unfold nextD; rw [if_neg (by decide), h1]; rfl
      rw [h1] at ht
      clear h h1 hS
      go_enter Tryd.func50, Tryd.ntmps50
      go_wp2_with (go_at_call 54; refine ht.mono ?_; clear ht; rintro e w1 ⟨b1, p1, s1', rfl, hr1, hk1, hn1, -⟩; obtain rfl := hn1 rfl)
      go_ret
      exact Says.no HN.out hr1 hk1
    | some sr =>
      obtain ⟨s2, r1⟩ := sr
      have hg2 := hg.takeTime h1
      have HV : Hid (∀ W p2, Rd W U v ys p2 s2 → (ub ys).drop p2 = r1 → Calls Tryd.prog 55 #[.pointer (some ⟨U, 0, none⟩)] W fun e w' => Says W U v ys (takeValue s2 r1) e w') := fun W p2 h9 h8 => by
        have := takeValue_any W U v ys p2 s2 h9 hg2
        rw [h8] at this
        exact this
      have HN : Hid (nextD false s ((ub ys).drop p) = takeValue s2 r1) := by show _ = _; unfold nextD; rw [if_neg (by decide), h1]; rfl
      rw [h1] at ht
      clear h h1 hS hg2
      go_enter Tryd.func50, Tryd.ntmps50
      go_wp2_with (first
        | (go_at_call 54; refine ht.mono ?_; clear ht; rintro e w1 ⟨b1, p1, s1', rfl, hr1, hk1, -, hs1⟩; obtain ⟨rfl, rfl, hd1⟩ := hs1 _ _ rfl; have HR1 : Hid (Rd w1 U v ys p1 s1') := hr1; have HK1 : Hid (Kept (fun k => k = U) w w1) := hk1; have HD1 : Hid ((ub ys).drop p1 = r1) := hd1; clear hr1 hk1 hd1 hs1)
        | (go_at_call 55; refine (HV.out w1 p1 HR1.out HD1.out).mono ?_; clear HV; rintro e w2 ⟨b2, p2, s2', rfl, hr2, hk2, hn2, hs2⟩))
      go_ret
      exact ⟨b2, p2, s2', rfl, hr2, keptU HK1.out hk2, fun e9 => hn2 (HN.out.symm.trans e9), fun s9 r9 e9 => hs2 s9 r9 (HN.out.symm.trans e9)⟩

end Go.Proofs.YtkmclgbiedbfpaaDoor
