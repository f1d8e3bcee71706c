/- LabelsMatch, walked. -/
import Derived.Test.YtcpoknmachphnaaDoorLm
import Derived.Test.YtcpoknmachphnaaDoorLh
namespace Go.Proofs.YtcpoknmachphnaaDoor
open Go.RowKit

/-- A slice that reads as these matchers. -/
def MatsAt (w : World) (v : Value) (ms : List Mt) : Prop :=
  ∃ a c, v = .slice a ms.length c ∧ (ms.length ≤ c ∧ c ≤ maxLen) ∧ ∀ k (hk : k < ms.length), ∃ b o, a = some ⟨b, o, none⟩ ∧ b < w.heap.size ∧ w.cell? ⟨b, o + k * 3, none⟩ = some (.int .i64 ms[k].k) ∧ w.cell? ⟨b, o + k * 3 + 1, none⟩ = some (.string ms[k].n) ∧ w.cell? ⟨b, o + k * 3 + 2, none⟩ = some (.string ms[k].v)
theorem MatsAt.one {w : World} {a : Option Addr} {c : Nat} {ms : List Mt} (h : MatsAt w (.slice a ms.length c) ms) (k : Nat) (hk : k < ms.length) : ∃ b o, a = some ⟨b, o, none⟩ ∧ ∀ w', Below w.heap.size w w' → w'.cell? ⟨b, o + k * 3, none⟩ = some (.int .i64 ms[k].k) ∧ w'.cell? ⟨b, o + k * 3 + 1, none⟩ = some (.string ms[k].n) ∧ w'.cell? ⟨b, o + k * 3 + 2, none⟩ = some (.string ms[k].v) := by
  obtain ⟨a', c', e, -, hc⟩ := h
  cases e
  obtain ⟨b, o, rfl, hb, h1, h2, h3⟩ := hc k hk
  exact ⟨b, o, rfl, fun w' hb' => ⟨(hb'.cell (p := ⟨b, o + k * 3, none⟩) hb).trans h1, (hb'.cell (p := ⟨b, o + k * 3 + 1, none⟩) hb).trans h2, (hb'.cell (p := ⟨b, o + k * 3 + 2, none⟩) hb).trans h3⟩⟩
theorem foldS_length (ms : List Lb) : ∀ out : List Lb, out.length ≤ 64 → (ms.foldl stepS out).length ≤ 64 := by
  induction ms with
  | nil => intro out h; exact h
  | cons a t ih =>
    intro out h
    rw [List.foldl_cons]
    refine ih _ ?_
    unfold stepS
    split
    · exact newR_length _
    · exact h
theorem setL_length (ls : List Lb) : (setL ls).length ≤ 64 := foldS_length _ [] (Nat.zero_le _)

set_option maxRecDepth 100000 in
set_option maxHeartbeats 2000000 in
theorem match_any (v u : Value) (ls : List Lb) (ms : List Mt) (w : World) (h : LabsAt w v ls) (hsz : Sized ls) (hm : MatsAt w u ms) (hT : Tabs w) :
    Calls Tryd.prog 8 #[v, u] w fun e w' => e = .returned (.bool true) ∧ Below w.heap.size w w' := by
  have hset := set_any v ls w h hsz
  have hsl := setL_length ls
  obtain ⟨a, c, rfl, -, -⟩ := id h
  obtain ⟨am, cm, rfl, hlcm, -⟩ := id hm
  generalize setL ls = s at *
  have HM : Hid (MatsAt w (.slice am ms.length cm) ms) := hm
  have HT : Hid (Tabs w) := hT
  have hmx : ms.length ≤ 9223372036854775807 := by have h1 := hlcm; unfold maxLen at h1; omega
  have heI : ∀ args w, (callFunc 42 args).run Tryd.prog w = .ok (.enter 42 args) w := enters_of Tryd.func42 (by kernel_rfl) rfl
  have heR : ∀ args w, (callFunc 43 args).run Tryd.prog w = .ok (.enter 43 args) w := enters_of Tryd.func43 (by kernel_rfl) rfl
  clear h hsz hm hT
  go_enter Tryd.func8, Tryd.ntmps8
  go_wp2_with (go_at_call 18; refine hset.mono ?_; rintro e w1 ⟨v1, rfl, hr1, hb1⟩; have hL1 := LabsAt.of_row hr1; obtain ⟨a1, c1, rfl, -, -⟩ := id hL1)
  have HL : Hid (LabsAt w1 (.slice a1 s.length c1) s) := hL1
  have HB1 : Hid (Below w.heap.size w w1) := hb1
  clear hL1 hr1 hset hb1
  go_loopw [6] (fun i wr => ∃ k : Nat, k ≤ ms.length ∧ k ≤ 60 ∧ i = .int .i64 k ∧ Hid (Below w1.heap.size w1 wr)) (fun i _ => 60 - (intOf i).toNat)
  case atStart => exact ⟨0, Nat.zero_le _, Nat.zero_le _, rfl, Below.refl _ _⟩
  case round =>
    obtain ⟨k, hk, hk1, rfl, hbel⟩ := hrel
    have HWk : Hid (Calls Tryd.prog 17 #[] wr fun e w' => e = .returned (.bool true) ∧ Below w.heap.size w w') := by
      have hbw : Below w.heap.size w wr := HB1.out.trans (hbel.out.mono HB1.out.size)
      exact (wakes_any wr (HT.out.below hbw)).mono fun e w' ⟨he, hb⟩ => ⟨he, hbw.trans (hb.mono hbw.size)⟩
    by_cases hlk : k < ms.length
    · by_cases h60 : k < 60
      · obtain ⟨b, o, rfl, hone⟩ := HM.out.one k hlk
        obtain ⟨m, hmk⟩ : ∃ m, m = ms[k] := ⟨_, rfl⟩
        rw [← hmk] at hone
        clear hmk
        have HO : Hid (∀ W, Below w1.heap.size w1 W → W.cell? ⟨b, o + k * 3, none⟩ = some (.int .i64 m.k) ∧ W.cell? ⟨b, o + k * 3 + 1, none⟩ = some (.string m.n) ∧ W.cell? ⟨b, o + k * 3 + 2, none⟩ = some (.string m.v)) := fun W hW => hone W (HB1.out.trans (hW.mono HB1.out.size))
        have HI : Hid (∀ W, Below w1.heap.size w1 W → Calls Tryd.prog 42 #[.slice a1 s.length c1, .agg #[.int .i64 m.k, .string m.n, .string m.v]] W fun e w' => ∃ z, e = .returned z ∧ z = .bool (isL s m) ∧ Below w1.heap.size w1 w') := fun W hW => (is_any _ s m W (HL.out.below hW) (by omega)).mono fun e w' ⟨he, hb⟩ => ⟨_, he, rfl, hW.trans (hb.mono hW.size)⟩
        have HR : Hid (∀ W, Below w1.heap.size w1 W → Calls Tryd.prog 43 #[.slice a1 s.length c1, .agg #[.int .i64 m.k, .string m.n, .string m.v]] W fun e w' => ∃ z, e = .returned z ∧ z = .bool (isL s m) ∧ Below w1.heap.size w1 w') := fun W hW => (refIs_any _ s m W (HL.out.below hW) (by omega)).mono fun e w' ⟨he, hb⟩ => ⟨_, he, rfl, hW.trans (hb.mono hW.size)⟩
        clear hone
        obtain ⟨q0, q1, q2⟩ := HO.out wr hbel.out
        have hkl : (k : Int) < (ms.length : Int) := by omega
        have h60i : (k : Int) < 60 := by omega
        have HD : Hid (Below w1.heap.size w1 wr.drew) := hbel.out.drew
        obtain ⟨mk, mn, mv⟩ := m
        dsimp only at *
        generalize isL s ⟨mk, mn, mv⟩ = r at *
        go_wp2_with fail
        go_region_law (first
          | (refine step_call2 _ (by rfl) 42 _ _ _ _ (by rfl) _ _ (by rfl) (by rfl) heI _ (HI.out _ (by first | exact HD.out | exact hbR)) ?_; rintro z w2 ⟨rfl, hbI⟩; obtain ⟨p0, p1, p2⟩ := HO.out _ hbI)
          | (refine step_call2 _ (by rfl) 43 _ _ _ _ (by rfl) _ _ (by rfl) (by rfl) heR _ (HR.out _ (by first | exact HD.out | exact hbI)) ?_; rintro z w3 ⟨rfl, hbR⟩; obtain ⟨g0, g1, g2⟩ := HO.out _ hbR))
        all_goals
          cases r
          all_goals
            go_wp2
            go_roundw
            case rel => exact ⟨k + 1, by omega, by omega, by go_num, by first | exact hbR | exact hbI⟩
            case measure => simp [intOf]; omega
      · go_wp2_with (go_at_call 17; refine HWk.out.mono ?_; rintro e w2 ⟨rfl, hb2⟩)
        go_ret
        exact ⟨rfl, hb2⟩
    · go_wp2_with (go_at_call 17; refine HWk.out.mono ?_; rintro e w2 ⟨rfl, hb2⟩)
      go_ret
      exact ⟨rfl, hb2⟩

end Go.Proofs.YtcpoknmachphnaaDoor
