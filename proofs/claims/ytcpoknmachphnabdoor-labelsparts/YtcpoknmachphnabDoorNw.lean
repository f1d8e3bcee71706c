/- LabelsNames, walked. -/
import Derived.Test.YtcpoknmachphnabDoorLh
import Derived.Test.YtcpoknmachphnabDoorLk
namespace Go.Proofs.YtcpoknmachphnabDoor
open Go.RowKit

theorem short_nil : Short [] := fun _i h => absurd h (Nat.not_lt_zero _)
/-- A slice that reads as these texts. -/
def TextsAt (w : World) (v : Value) (ss : List ByteArray) : Prop :=
  ∃ a c, v = .slice a ss.length c ∧ (ss.length ≤ c ∧ c ≤ maxLen) ∧ ∀ k (hk : k < ss.length), ∃ b o, a = some ⟨b, o, none⟩ ∧ b < w.heap.size ∧ w.cell? ⟨b, o + k, none⟩ = some (.string ss[k]) ∧ ss[k].size ≤ maxLen
theorem TextsAt.below {w w' : World} {v : Value} {ss : List ByteArray} (h : TextsAt w v ss) (hb : Below w.heap.size w w') : TextsAt w' v ss := by
  obtain ⟨a, c, e, hlc, hk⟩ := h
  refine ⟨a, c, e, hlc, fun k hlt => ?_⟩
  obtain ⟨b, o, ha, hl, h1, h2⟩ := hk k hlt
  have := hb.size
  exact ⟨b, o, ha, by omega, (hb.cell (p := ⟨b, o + k, none⟩) hl).trans h1, h2⟩
theorem TextsAt.one {w : World} {a : Option Addr} {c : Nat} {ss : List ByteArray} (h : TextsAt w (.slice a ss.length c) ss) (k : Nat) (hk : k < ss.length) : ∃ b o, a = some ⟨b, o, none⟩ ∧ ss[k].size ≤ maxLen ∧ ∀ w', Below w.heap.size w w' → w'.cell? ⟨b, o + k, none⟩ = some (.string ss[k]) := by
  obtain ⟨a', c', e, -, hc⟩ := h
  cases e
  obtain ⟨b, o, rfl, hb, h1, h2⟩ := hc k hk
  exact ⟨b, o, rfl, h2, fun w' hb' => (hb'.cell (p := ⟨b, o + k, none⟩) hb).trans h1⟩

set_option maxRecDepth 100000 in
set_option maxHeartbeats 2000000 in
theorem names_any (v : Value) (ss : List ByteArray) (w : World) (h : TextsAt w v ss) (hT : Tabs w) :
    Calls Tryd.prog 4 #[v] w fun e w' => e = .returned (.bool true) ∧ Below w.heap.size w w' := by
  obtain ⟨a, c, rfl, hlc, -⟩ := id h
  have HC : Hid (TextsAt w (.slice a ss.length c) ss) := h
  have HT : Hid (Tabs w) := hT
  have hmx : ss.length ≤ 9223372036854775807 := by have h1 := hlc; unfold maxLen at h1; omega
  clear h hT
  go_enter Tryd.func4, Tryd.ntmps4
  go_wp2
  go_loopw [3] (fun i wr => ∃ k q : Nat, k ≤ ss.length ∧ k ≤ 100 ∧ i = .int .i64 k ∧ wr = w.drewN q) (fun i _ => 100 - (intOf i).toNat)
  case atStart => exact ⟨0, 0, Nat.zero_le _, Nat.zero_le _, rfl, rfl⟩
  case round =>
    obtain ⟨k, q, hk, hk1, rfl, rfl⟩ := hrel
    have hbq : Below w.heap.size w (w.drewN q) := below_drewN (Below.refl _ _) q
    have hfin : ∀ W, Below w.heap.size w W → Calls Tryd.prog 14 #[.slice none 0 0] W fun e w' => e = .returned (.int .u64 12638153115695167455) ∧ Below W.heap.size W w' := fun W _ => by
      have := hash_any (.slice none 0 0) [] W (LabsAt.nil (Nat.zero_le _)) (by simp) short_nil
      rw [hash_nil] at this
      exact this
    have hwk : ∀ W, Below w.heap.size w W → Calls Tryd.prog 9 #[] W fun e w' => e = .returned (.bool true) ∧ Below W.heap.size W w' := fun W hb => wakes_any W (HT.out.below hb)
    have HFin : Hid (∀ W, Below w.heap.size w W → Calls Tryd.prog 14 #[.slice none 0 0] W fun e w' => e = .returned (.int .u64 12638153115695167455) ∧ Below W.heap.size W w') := hfin
    have HWk : Hid (∀ W, Below w.heap.size w W → Calls Tryd.prog 9 #[] W fun e w' => e = .returned (.bool true) ∧ Below W.heap.size W w') := hwk
    have HBq : Hid (Below w.heap.size w (w.drewN q)) := hbq
    have HQ : Hid (∀ m, (w.drewN q).drewN m = w.drewN (q + m)) := fun m => World.drewN_drewN _ _ _
    clear hfin hwk
    by_cases hlk : k < ss.length
    · by_cases h100 : k < 100
      · obtain ⟨b, o, rfl, hsk, hone⟩ := HC.out.one k hlk
        have hc := hone _ hbq
        clear hone hbq
        obtain ⟨nm, hnm⟩ : ∃ nm, nm = ss[k] := ⟨_, rfl⟩
        rw [← hnm] at hc hsk
        clear hnm
        have hkl : (k : Int) < (ss.length : Int) := by omega
        have h100i : (k : Int) < 100 := by omega
        have hR1 := fun W => rightName_any nm W
        have hR2 := fun W => refRightName_any nm W hsk
        have hR3 := fun W => rightMetric_any nm W
        have hR4 := fun W => refRightMetric_any nm W hsk
        generalize wd false nm = r1 at *
        generalize wd true nm = r3 at *
        generalize w.drewN q = wr at *
        cases r1 <;> cases r3
        all_goals
          go_wp2
          go_quiet (first
            | (go_at_call 10; exact Calls.quiet_of_same (hR1 _))
            | (go_at_call 11; exact Calls.quiet_of_same (hR2 _))
            | (go_at_call 12; exact Calls.quiet_of_same (hR3 _))
            | (go_at_call 13; exact Calls.quiet_of_same (hR4 _)))
          go_wp2
          go_roundw
          case rel => exact ⟨k + 1, q + nq, by omega, by omega, by go_num, HQ.out nq⟩
          case measure => simp [intOf]; omega
      · clear hbq
        go_wp2_with (first
          | (go_at_call 14; refine (HFin.out _ HBq.out).mono ?_; rintro e w1 ⟨rfl, hb1⟩; have hbw1 := HBq.out.trans (hb1.mono HBq.out.size))
          | (go_at_call 9; refine (HWk.out _ hbw1).mono ?_; rintro e w2 ⟨rfl, hb2⟩))
        go_ret
        exact ⟨rfl, hbw1.trans (hb2.mono hbw1.size)⟩
    · clear hbq
      go_wp2_with (first
        | (go_at_call 14; refine (HFin.out _ HBq.out).mono ?_; rintro e w1 ⟨rfl, hb1⟩; have hbw1 := HBq.out.trans (hb1.mono HBq.out.size))
        | (go_at_call 9; refine (HWk.out _ hbw1).mono ?_; rintro e w2 ⟨rfl, hb2⟩))
      go_ret
      exact ⟨rfl, hbw1.trans (hb2.mono hbw1.size)⟩

end Go.Proofs.YtcpoknmachphnabDoor
