/- NumParse. -/
import Derived.Test.YtinfnkhghmcelaaDoorMHo
import Derived.Test.YtinfnkhghmcelaaDoorMEl1
namespace Go.Proofs.YtinfnkhghmcelaaDoor
open Go.ChangeShapes Go.WideShapes Go.ChangeAt Go.RowKit Go.Maps
open Go.Deep (open_slice choose_lt)

/-- A slice that reads as these texts. -/
def TextsAt (w : World) (v : Value) (ss : List ByteArray) : Prop :=
  ∃ a c, v = .slice a ss.length c ∧ (ss.length ≤ c ∧ c ≤ maxLen) ∧ ∀ k (hk : k < ss.length), ∃ b o, a = some ⟨b, o, none⟩ ∧ b < w.heap.size ∧ w.cell? ⟨b, o + k, none⟩ = some (.string ss[k]) ∧ ss[k].size ≤ maxLen
theorem TextsAt.one {w : World} {a : Option Addr} {c n : Nat} {ss : List ByteArray} (h : TextsAt w (.slice a n c) ss) (k : Nat) (hk : k < ss.length) {w' : World} (hb' : Below w.heap.size w w') : ∃ b o, a = some ⟨b, o, none⟩ ∧ ss[k].size ≤ maxLen ∧ w'.cell? ⟨b, o + k, none⟩ = some (.string ss[k]) := by
  obtain ⟨a', c', e, -, hc⟩ := h
  cases e
  obtain ⟨b, o, rfl, hb, h1, h2⟩ := hc k hk
  exact ⟨b, o, rfl, h2, (hb'.cell (p := ⟨b, o + k, none⟩) hb).trans h1⟩
theorem texts_came {H : Type} {enc : TypeId × Value → H} {w : World} {a : Option Addr} {len cap : Nat} {d : DataW H} {p : List MemPlace} (h : DataW.Trod enc Tryd.prog w 0 (fun _ => true) true 22 (.slice a len cap) d p) :
    ∃ ss : List ByteArray, TextsAt w (.slice a len cap) ss := by
  obtain ⟨fuel, hf⟩ := h
  rcases open_strings Tryd.underlying22 Tryd.underlying9 cells9 hf with ⟨hcs, hx⟩ | ⟨x, len', cap', ss, hcs, _, hl, hm, hz, hx, hcell, hws⟩
  · simp [Value.cells] at hcs
    obtain ⟨rfl, rfl, rfl⟩ := hcs
    exact ⟨[], none, 0, rfl, ⟨Nat.zero_le _, Nat.zero_le _⟩, fun k hk => absurd hk (Nat.not_lt_zero _)⟩
  · simp [Value.cells] at hcs
    obtain ⟨rfl, rfl, rfl⟩ := hcs
    simp only [if_true] at hz
    have hlen : (ss.take len).length = len := by simp; omega
    refine ⟨ss.take len, some x, cap, by rw [hlen], ⟨by omega, by omega⟩, fun k hk => ?_⟩
    have hk' : k < len := by omega
    obtain ⟨b, off, spot⟩ := x
    have hspot : spot = none := by simpa [Addr.add] using World.cell?_spot (hcell 0 (by omega))
    subst hspot
    have hkc := hcell k (by omega)
    rw [add_plain] at hkc
    have e : ss.getD k ByteArray.empty = (ss.take len)[k] := by simp [List.getD, show k < ss.length by omega]
    rw [e] at hkc
    exact ⟨b, off, rfl, World.block_lt_of_cell? w _ hkc, hkc, hws _ (by simp)⟩

set_option maxRecDepth 100000 in
set_option maxHeartbeats 4000000 in
theorem parse_core (v : Value) (ss : List ByteArray) (w : World) (ha : TextsAt w v ss) (hU : Units w) :
    Calls Tryd.prog 3 #[v] w fun e w' => e = .returned (.bool true) ∧ Below w.heap.size w w' := by
  obtain ⟨a, c, rfl, hlc, -⟩ := id ha
  have HA : Hid (TextsAt w (.slice a ss.length c) ss) := ha
  have HU : Hid (Units w) := hU
  unfold maxLen at hlc
  clear ha hU
  go_enter Tryd.func3, Tryd.ntmps3
  go_wp2
  go_loopw [3] (fun i wr => ∃ k : Nat, k ≤ 4 ∧ k ≤ ss.length ∧ i = .int .i64 k ∧ Hid (Below w.heap.size w wr)) (fun i _ => 4 - (intOf i).toNat)
  case atStart => exact ⟨0, by omega, by omega, rfl, Below.refl _ _⟩
  case round =>
    obtain ⟨k, hk, hkl, rfl, HBL⟩ := hrel
    by_cases hlt : k < ss.length
    · by_cases h60 : k < 4
      · obtain ⟨b, o, rfl, hsz, hcell⟩ := HA.out.one k hlt HBL.out
        have HC2 : Hid (∀ w', Below w.heap.size w w' → w'.cell? ⟨b, o + k, none⟩ = some (.string ss[k])) := fun w' hb' => by
          obtain ⟨b9, o9, e9, -, h9⟩ := HA.out.one k hlt hb'
          cases e9
          exact h9
        generalize ss[k] = s at *
        have hlti : (k : Int) < (ss.length : Int) := by omega
        have h60i : (k : Int) < 4 := by omega
        have HPA : Hid (∀ W : World, Calls Tryd.prog 6 #[.string s] W fun e w' => e = .returned (.tuple #[.float .f64 (parseR s).1, .int .i64 (parseR s).2]) ∧ Below W.heap.size W w') := fun W => parse_any s W hsz
        have HPR : Hid (∀ W : World, Calls Tryd.prog 7 #[.string s] W fun e w' => e = .returned (.tuple #[.float .f64 (parseR s).1, .int .i64 (parseR s).2]) ∧ Below W.heap.size W w') := fun W => refParse_any s W hsz
        generalize (parseR s).1 = x at *
        generalize (parseR s).2 = E at *
        have HKB : Hid (∀ W : World, Calls Tryd.prog 8 #[.float .f64 x, .float .f64 x] W fun e w' => e = .returned (.bool true) ∧ w' = W) := fun W => by
          have h := keepBits_any x x W
          rw [decide_eq_true rfl] at h
          exact h
        clear hsz
        go_wp2_with (first
          | (go_at_call 6; refine (HPA.out _).mono ?_; clear HPA; rintro e w1 ⟨rfl, hb1⟩; have HB1 : Hid (Below w.heap.size w w1) := HBL.out.trans (hb1.mono HBL.out.size); clear hb1; have hcell2 := HC2.out w1 HB1.out)
          | (go_at_call 7; refine (HPR.out _).mono ?_; clear HPR; rintro e w2 ⟨rfl, hb2⟩; have HB2 : Hid (Below w.heap.size w w2) := HB1.out.trans (hb2.mono HB1.out.size); clear hb2)
          | (go_at_call 8; refine (HKB.out _).mono ?_; clear HKB; rintro e w3 ⟨rfl, hw3⟩; have hw3 := hw3.symm; subst hw3))
        go_roundw
        case rel => exact ⟨k + 1, by omega, by omega, by go_num, HB2.out⟩
        case measure => simp [intOf]; omega
      · have HWK : Hid (Calls Tryd.prog 9 #[] wr fun e w' => e = .returned (.bool true) ∧ Below wr.heap.size wr w') := wakes_any wr (HU.out.below HBL.out)
        have h60i : ¬ (k : Int) < 4 := by omega
        have hlti : (k : Int) < (ss.length : Int) := by omega
        go_wp2_with (go_at_call 9; refine HWK.out.mono ?_; clear HWK; rintro e w7 ⟨rfl, hb7⟩; have HB7 : Hid (Below w.heap.size w w7) := HBL.out.trans (hb7.mono HBL.out.size); clear hb7)
        go_ret
        exact ⟨rfl, HB7.out⟩
    · have HWK : Hid (Calls Tryd.prog 9 #[] wr fun e w' => e = .returned (.bool true) ∧ Below wr.heap.size wr w') := wakes_any wr (HU.out.below HBL.out)
      have hki : ¬ (k : Int) < (ss.length : Int) := by omega
      go_wp2_with (go_at_call 9; refine HWK.out.mono ?_; clear HWK; rintro e w7 ⟨rfl, hb7⟩; have HB7 : Hid (Below w.heap.size w w7) := HBL.out.trans (hb7.mono HBL.out.size); clear hb7)
      go_ret
      exact ⟨rfl, HB7.out⟩
theorem parse_w (v : Value) (ss : List ByteArray) (W : World) (ha : TextsAt W v ss) (h : Units W ∧ Pow W) :
    Calls Tryd.prog 3 #[v] W fun e w' => e = .returned (.bool true) ∧ Below W.heap.size W w' := parse_core v ss W ha h.1
end Go.Proofs.YtinfnkhghmcelaaDoor
