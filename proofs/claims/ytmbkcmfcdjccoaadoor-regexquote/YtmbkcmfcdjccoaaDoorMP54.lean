/- Texts that belong together. -/
import Derived.Test.YtmbkcmfcdjccoaaDoorMP53
/- What a class means: pure. -/
namespace Go.Proofs.YtmbkcmfcdjccoaaDoor
open Go.RowKit Go.Maps

theorem run_class (A : List Sp) (neg : Bool) (text : ByteArray) (nt : Bool) : (runF [.take A neg, .yes] text nt).isSome = (decide (0 < text.size) && (decide (text.size ≤ (charR text 0).2) && (memS A (charR text 0).1 != neg))) := by
  have h0 : folF [.take A neg, .yes] text.size 0 nt (3 * 2 + 3) none ⟨List.replicate 2 0, [(0, [])], [], none⟩ = ⟨[1, 0], [], [(0, [])], none⟩ := by
    simp [folF, List.replicate]
  unfold runF
  rw [show ([Stp.take A neg, Stp.yes] : List Stp).length = 2 from rfl, h0]
  show (loopF _ text nt (text.size + 1) 0 [(0, [])] ⟨[1, 0], [], [(0, [])], none⟩).fnd.isSome = _
  rw [loopF]
  by_cases hz : 0 < text.size
  · obtain ⟨k1, k2, k3⟩ := charR_ok hz
    rw [if_pos ⟨hz, by simp⟩, Nat.zero_add]
    generalize (charR text 0).1 = c at *
    generalize (charR text 0).2 = w at *
    have hw : ¬ w = 0 := by omega
    have hsw : sweepF [.take A neg, .yes] text.size w nt c [(0, [])] ⟨[1, 0], [], [], none⟩ = if (memS A c != neg) = true then (if w < text.size then ⟨[1, w + 1], [], [], none⟩ else ⟨[1, w + 1], [], [], some []⟩) else ⟨[1, 0], [], [], none⟩ := by
      have hf : folF [.take A neg, .yes] text.size w nt (3 * 2 + 3) none ⟨[1, 0], [(1, [])], [], none⟩ = if w < text.size then ⟨[1, w + 1], [], [], none⟩ else ⟨[1, w + 1], [], [], some []⟩ := by
        simp [folF]
      rw [sweepF]
      show (if takesS [.take A neg, .yes] 0 c = true then sweepF _ _ _ _ _ [] _ else sweepF _ _ _ _ _ [] _) = _
      rw [show takesS [.take A neg, .yes] 0 c = (memS A c != neg) from rfl]
      split
      · show folF [.take A neg, .yes] text.size w nt (3 * 2 + 3) none ⟨[1, 0], [(0 + 1, [])], [], none⟩ = _
        rw [show (0 + 1, ([] : List (Nat × Nat))) = (1, []) from rfl, hf]
      · rfl
    show (loopF _ text nt text.size w (sweepF [.take A neg, .yes] text.size w nt c [(0, [])] ⟨[1, 0], [], [], none⟩).wait (sweepF [.take A neg, .yes] text.size w nt c [(0, [])] ⟨[1, 0], [], [], none⟩)).fnd.isSome = _
    rw [hsw]
    have hend : ∀ (s : FS), s.wait = [] → loopF [.take A neg, .yes] text nt text.size w s.wait s = s := fun s h => by
      obtain ⟨k, hk⟩ : ∃ k, text.size = k + 1 := ⟨text.size - 1, by omega⟩
      rw [h]
      generalize text.size = E at *
      subst hk
      rw [loopF, if_neg (by simp)]
    have hwt : (if (memS A c != neg) = true then (if w < text.size then (⟨[1, w + 1], [], [], none⟩ : FS) else ⟨[1, w + 1], [], [], some []⟩) else ⟨[1, 0], [], [], none⟩).wait = [] := by
      split
      · split <;> rfl
      · rfl
    rw [hend _ hwt, decide_eq_true hz]
    by_cases hm : (memS A c != neg) = true
    · rw [if_pos hm, hm]
      by_cases hl : w < text.size
      · rw [if_pos hl, decide_eq_false (by omega)]
        rfl
      · rw [if_neg hl, decide_eq_true (by omega)]
        rfl
    · have hm2 : (memS A c != neg) = false := by
        cases h : (memS A c != neg) with
        | false => rfl
        | true => exact absurd h hm
      rw [if_neg hm, hm2]
      simp
  · rw [if_neg (by omega), decide_eq_false hz]
    rfl
/-- A text is one character of the class. -/
def memB (L : List UInt8) (R : Option (UInt8 × UInt8)) (x : ByteArray) : Bool := decide (x.size = 1) && memS (clsA L R) (bAt x 0)
def oneB (x : ByteArray) : Bool := decide (0 < x.size) && (decide (wAt x 0 = x.size) || (decide (wAt x 0 = 0) && decide (x.size = 1)))
theorem dec_w (n b0 b1 b2 b3 : Nat) (h0 : b0 < 256) (h1 : b1 < 256) (h2 : b2 < 256) (h3 : b3 < 256) : (Lib.decodeN n b0 b1 b2 b3).2 = (if wN n b0 b1 b2 b3 = 0 then 1 else wN n b0 b1 b2 b3) ∧ (128 ≤ b0 → 128 ≤ (Lib.decodeN n b0 b1 b2 b3).1) := by
  by_cases c1 : b0 < 128
  · rw [w1 c1]
    unfold Lib.decodeN
    rw [if_pos c1]
    exact ⟨rfl, fun h => by omega⟩
  · by_cases c0 : b0 < 192 ∨ 248 ≤ b0
    · rw [w0 (by omega) c0]
      unfold Lib.decodeN
      rw [if_neg c1, if_neg (by omega), if_neg (by omega), if_neg (by omega)]
      exact ⟨rfl, fun _ => by decide⟩
    · by_cases c2 : b0 < 224
      · rw [w2 (by omega) c2]
        unfold Lib.decodeN
        rw [if_neg c1]
        refine ⟨?_, fun _ => ?_⟩
        all_goals
          repeat' split
          all_goals first | rfl | (exfalso; omega) | (simp only; omega)
      · by_cases c3 : b0 < 240
        · rw [w3 (by omega) c3]
          unfold Lib.decodeN
          rw [if_neg c1, if_neg (by omega)]
          refine ⟨?_, fun _ => ?_⟩
          all_goals
            repeat' split
            all_goals first | rfl | (exfalso; omega) | (simp only; omega)
        · rw [w4 (by omega) (by omega)]
          unfold Lib.decodeN
          rw [if_neg c1, if_neg (by omega), if_neg (by omega)]
          refine ⟨?_, fun _ => ?_⟩
          all_goals
            repeat' split
            all_goals first | rfl | (exfalso; omega) | (simp only; omega)
theorem memS_bound {L : List UInt8} {R : Option (UInt8 × UInt8)} (hL : ∀ b ∈ L, ltr b) (hR : RgOk R) {c : Nat} (h : memS (clsA L R) c = true) : c < 128 := by
  unfold memS at h
  obtain ⟨x, hx, h2⟩ := List.any_eq_true.1 h
  simp only [Bool.and_eq_true, decide_eq_true_eq] at h2
  rcases List.mem_append.1 hx with h3 | h3
  · obtain ⟨b, hb, rfl⟩ := List.mem_map.1 h3
    have := hL b hb
    unfold ltr at this
    unfold spB at h2
    omega
  · cases R with
    | none => cases h3
    | some p =>
      obtain ⟨lo, hi⟩ := p
      obtain ⟨h4, h5, h6⟩ := hR
      rw [List.mem_singleton.1 h3] at h2
      unfold ltr at h4 h5
      simp only at h2
      omega
theorem wN_three (m b0 b1 b2 b3 : Nat) : wN m b0 b1 b2 b3 = 0 ∨ 1 ≤ wN m b0 b1 b2 b3 := by omega
/-- What the program makes of a text of one character, by the document's own reading. -/
theorem char_doc {x : ByteArray} (h : 0 < x.size) : (charR x 0).2 = (if wAt x 0 = 0 then 1 else wAt x 0) ∧ (bAt x 0 < 128 → (charR x 0).1 = bAt x 0 ∧ wAt x 0 = 1) ∧ (128 ≤ bAt x 0 → 128 ≤ (charR x 0).1) := by
  have e : charR x 0 = Lib.decodeN (x.size - 0) (bAt x 0) (bAt x (0 + 1)) (bAt x (0 + 2)) (bAt x (0 + 3)) := by
    rw [charR_drop h, Lib.decodeL_N]
    simp only [List.drop_zero, Nat.sub_zero, ← Lib.size_eq]
    rfl
  obtain ⟨h1, h2⟩ := dec_w (x.size - 0) (bAt x 0) (bAt x (0 + 1)) (bAt x (0 + 2)) (bAt x (0 + 3)) (bAt_lt x _) (bAt_lt x _) (bAt_lt x _) (bAt_lt x _)
  rw [e]
  refine ⟨h1, fun h3 => ⟨?_, ?_⟩, h2⟩
  · unfold Lib.decodeN
    rw [if_pos h3]
  · unfold wAt
    exact w1 h3
theorem class_in {L : List UInt8} {R : Option (UInt8 × UInt8)} (hL : ∀ b ∈ L, ltr b) (hR : RgOk R) (x : ByteArray) (nt : Bool) : (runF (progR (.row [.take (clsA L R) false])) x nt).isSome = memB L R x := by
  rw [class_prog, run_class]
  by_cases hz : 0 < x.size
  · obtain ⟨k1, k2, k3⟩ := charR_ok hz
    obtain ⟨h1, h2, h3⟩ := char_doc hz
    unfold memB
    rw [decide_eq_true hz]
    by_cases hb : bAt x 0 < 128
    · obtain ⟨h4, h5⟩ := h2 hb
      rw [h5, if_neg (by omega)] at h1
      rw [h1, h4]
      have : decide (x.size ≤ 1) = decide (x.size = 1) := by
        by_cases h9 : x.size = 1
        · rw [decide_eq_true h9, decide_eq_true (by omega)]
        · rw [decide_eq_false h9, decide_eq_false (by omega)]
      rw [this]
      simp
    · have hc := h3 (by omega)
      have m1 : memS (clsA L R) (charR x 0).1 = false := by
        cases h : memS (clsA L R) (charR x 0).1 with
        | false => rfl
        | true => have := memS_bound hL hR h; omega
      have m2 : memS (clsA L R) (bAt x 0) = false := by
        cases h : memS (clsA L R) (bAt x 0) with
        | false => rfl
        | true => have := memS_bound hL hR h; omega
      rw [m1, m2]
      simp
  · unfold memB
    rw [decide_eq_false hz, decide_eq_false (by omega : ¬ x.size = 1)]
    rfl
theorem class_out {L : List UInt8} {R : Option (UInt8 × UInt8)} (hL : ∀ b ∈ L, ltr b) (hR : RgOk R) (x : ByteArray) (nt : Bool) : (runF (progR (.row [.take (clsA L R) true])) x nt).isSome = (oneB x && !memB L R x) := by
  rw [class_prog, run_class]
  by_cases hz : 0 < x.size
  · obtain ⟨k1, k2, k3⟩ := charR_ok hz
    obtain ⟨h1, h2, h3⟩ := char_doc hz
    unfold memB oneB
    rw [decide_eq_true hz]
    by_cases hb : bAt x 0 < 128
    · obtain ⟨h4, h5⟩ := h2 hb
      rw [h5, if_neg (by omega)] at h1
      rw [h1, h4, h5]
      by_cases h9 : x.size = 1
      · rw [h9]
        simp
      · rw [decide_eq_false (by omega : ¬ x.size ≤ 1), decide_eq_false (by omega : ¬ 1 = x.size), decide_eq_false h9]
        simp
    · have hc := h3 (by omega)
      have m1 : memS (clsA L R) (charR x 0).1 = false := by
        cases h : memS (clsA L R) (charR x 0).1 with
        | false => rfl
        | true => have := memS_bound hL hR h; omega
      have m2 : memS (clsA L R) (bAt x 0) = false := by
        cases h : memS (clsA L R) (bAt x 0) with
        | false => rfl
        | true => have := memS_bound hL hR h; omega
      rw [m1, m2, h1]
      by_cases h0 : wAt x 0 = 0
      · rw [if_pos h0, h0]
        by_cases h9 : x.size = 1
        · rw [h9]; simp
        · rw [decide_eq_false (by omega : ¬ x.size ≤ 1), decide_eq_false (by omega : ¬ 0 = x.size), decide_eq_false h9]
          simp
      · rw [if_neg h0, decide_eq_false h0]
        have h6 : wAt x 0 ≤ x.size := by
          rw [h1, if_neg h0] at k2
          omega
        by_cases h9 : wAt x 0 = x.size
        · rw [decide_eq_true (by omega : x.size ≤ wAt x 0), decide_eq_true h9]; simp
        · rw [decide_eq_false (by omega : ¬ x.size ≤ wAt x 0), decide_eq_false h9]; simp
  · unfold memB oneB
    rw [decide_eq_false hz]
    rfl
end Go.Proofs.YtmbkcmfcdjccoaaDoor

/- What the law of classes plays: clip, cut; texts that come in. -/
namespace Go.Proofs.YtmbkcmfcdjccoaaDoor
open Go.RowKit Go.Maps

/-- A slice that reads as these texts. -/
def TextsAt (w : World) (v : Value) (ss : List ByteArray) : Prop :=
  ∃ a c, v = .slice a ss.length c ∧ (ss.length ≤ c ∧ c ≤ maxLen) ∧ ∀ k (hk : k < ss.length), ∃ b o, a = some ⟨b, o, none⟩ ∧ b < w.heap.size ∧ w.cell? ⟨b, o + k, none⟩ = some (.string ss[k]) ∧ ss[k].size ≤ maxLen
theorem TextsAt.below {w w' : World} {v : Value} {ss : List ByteArray} (h : TextsAt w v ss) (hb : Below w.heap.size w w') : TextsAt w' v ss := by
  obtain ⟨a, c, e, hlc, hk⟩ := h
  refine ⟨a, c, e, hlc, fun k hlt => ?_⟩
  obtain ⟨b, o, ha, hl, h1, h2⟩ := hk k hlt
  have := hb.size
  exact ⟨b, o, ha, by omega, (hb.cell (p := ⟨b, o + k, none⟩) hl).trans h1, h2⟩
theorem TextsAt.one {w : World} {a : Option Addr} {c : Nat} {ss : List ByteArray} (h : TextsAt w (.slice a ss.length c) ss) (k : Nat) (hk : k < ss.length) : ∃ b o, a = some ⟨b, o, none⟩ ∧ ss[k].size ≤ maxLen ∧ ∀ w', Below w.heap.size w w' → w'.cell? ⟨b, o + k, none⟩ = some (.string ss[k]) := by
  obtain ⟨a', c', e, -, hc⟩ := h
  cases e
  obtain ⟨b, o, rfl, hb, h1, h2⟩ := hc k hk
  exact ⟨b, o, rfl, h2, fun w' hb' => (hb'.cell (p := ⟨b, o + k, none⟩) hb).trans h1⟩
/-- A text of no more bytes than are played. -/
def clipB (s : ByteArray) : ByteArray := if 60 < s.size then s.extract 0 60 else s
theorem clipB_size (s : ByteArray) : (clipB s).size ≤ 60 := by
  unfold clipB
  split
  · simp
    omega
  · omega
set_option maxRecDepth 100000 in
theorem clip_any (s : ByteArray) (w : World) : Calls Tryd.prog 6 #[.string s] w fun e w' => e = .returned (.string (clipB s)) ∧ w' = w := by
  by_cases h : 60 < s.size
  · have e : clipB s = s.extract 0 60 := by unfold clipB; rw [if_pos h]
    have hz : (60 : Int) < s.size := by omega
    go_enter Tryd.func6, Tryd.ntmps6
    go_wp2
    go_ret
    exact ⟨by first | rfl | (rw [e]; rfl), rfl⟩
  · have e : clipB s = s := by unfold clipB; rw [if_neg h]
    have hz : ¬ (60 : Int) < s.size := by omega
    go_enter Tryd.func6, Tryd.ntmps6
    go_wp2
    go_ret
    exact ⟨by first | rfl | (rw [e]; rfl), rfl⟩
theorem appTxt : App Tryd.prog 22 9 1 := App.of (z := .string ByteArray.empty) (bytes := 16) Tryd.underlying22 (by kernel_rfl) rfl (by decide) (by decide)
def txC (l : List ByteArray) : List Value := l.map Value.string
/-- At most twelve texts, each short. -/
def cutB (l : List ByteArray) : List ByteArray := (l.take 12).map clipB
set_option maxRecDepth 100000 in
set_option maxHeartbeats 800000 in
theorem cut_any (v : Value) (ss : List ByteArray) (w : World) (h : TextsAt w v ss) : Calls Tryd.prog 13 #[v] w fun e w' => ∃ a c, e = .returned (.slice a (cutB ss).length c) ∧ w'.ownsRow w.heap.size 9 1 (.slice a (cutB ss).length c) (cutB ss).length (txC (cutB ss)) ∧ Below w.heap.size w w' := by
  obtain ⟨va, vc, rfl, -⟩ := id h
  have HT := hide h
  clear h
  obtain ⟨n, hn⟩ : ∃ n, n = ss.length := ⟨_, rfl⟩
  have HN := hide hn
  rw [← hn] at HT ⊢
  clear hn
  go_enter Tryd.func13, Tryd.ntmps13
  go_wp2
  go_loopw [3, 4] (fun ov iv wx => ∃ (k : Nat) (a : Option Addr) (c : Nat), iv = .int .i64 k ∧ k ≤ n ∧ k ≤ 12 ∧ ov = .slice a k c ∧ Hid (wx.ownsRow w.heap.size 9 1 (.slice a k c) k (txC ((ss.take k).map clipB)) ∧ Below w.heap.size w wx)) (fun _ iv _ => 12 - (intOf iv).toNat)
  case atStart => exact ⟨0, none, 0, rfl, Nat.zero_le _, Nat.zero_le _, rfl, by simpa [txC] using World.ownsRow_nil w w.heap.size 9 1, Below.refl _ _⟩
  case round =>
    obtain ⟨k, a, c, rfl, hk, hk12, rfl, HR⟩ := hrel
    by_cases hlt : k < n ∧ k < 12
    · obtain ⟨h1, h2⟩ := hlt
      have hkl : k < ss.length := by rw [← HN.out]; exact h1
      have hz1 : (k : Int) < n := by omega
      have hz2 : (k : Int) < 12 := by omega
      have hT2 := HT.out
      rw [HN.out] at hT2
      obtain ⟨b, o, rfl, hsz, hc⟩ := hT2.one k hkl
      have c0 := hc wr HR.out.2
      have hx : (ss.take (k + 1)).map clipB = (ss.take k).map clipB ++ [clipB ss[k]] := by rw [List.take_succ_eq_append_getElem hkl, List.map_append]; rfl
      generalize ss[k] = x at *
      have HX := hide hx
      have hA : ∀ o, (wr.alloc o).ownsRow w.heap.size 9 1 (.slice a k c) k (txC ((ss.take k).map clipB)) := fun o => World.ownsRow.alloc HR.out.1 o
      have HA := hide hA
      clear hc hT2 hx hA
      go_wp2_with (first
        | (go_at_call 6; refine (clip_any x _).mono ?_; rintro e w1 ⟨rfl, hw1⟩; have hw1 := hw1.symm; subst hw1)
        | (at_builtin; refine wpList_append_row appTxt _ rfl _ _ rfl w.heap.size (.slice a k c) k (txC ((ss.take k).map clipB)) rfl (HA.out _) _ 1 [.string (clipB x)] rfl (RowAt.of_block (cs := #[.string (clipB x)]) (heap_alloc_new _ _) rfl (by decide)) (by simp [Value.oneCell']) (by omega) (by have := HR.out.2.size; simp; omega) ?_; intro a5 c5 w5 hr5 hg5 _; have hR5 : w5.ownsRow w.heap.size 9 1 (.slice a5 (k + 1) c5) (k + 1) (txC ((ss.take (k + 1)).map clipB)) ∧ Below w.heap.size w w5 := ⟨by rw [HX.out]; simpa [txC] using hr5, (HR.out.2.alloc HR.out.2.size _).grown hg5 (by have := HR.out.2.size; simp; omega) (fun i hi => (World.ownsRow.lt HR.out.1 i hi).1)⟩; have HR5 := hide hR5; clear hR5 hr5 hg5))
      go_roundw
      case rel => exact ⟨k + 1, a5, c5, by go_num, by omega, by omega, rfl, HR5⟩
      case measure => simp [intOf]; omega
    · have hend : cutB ss = (ss.take k).map clipB ∧ (cutB ss).length = k := by
        have h9 := HN.out
        have h8 : ss.take 12 = ss.take k := by
          by_cases h7 : k < 12
          · rw [List.take_of_length_le (by omega), List.take_of_length_le (by omega)]
          · rw [show k = 12 by omega]
        unfold cutB
        rw [h8]
        refine ⟨rfl, by simp; omega⟩
      have HE := hide hend
      clear hend
      by_cases h1 : k < n
      · have hz1 : (k : Int) < n := by omega
        have hz2 : ¬ (k : Int) < 12 := by omega
        go_wp2
        go_ret
        exact ⟨a, c, by rw [HE.out.2]; rfl, by rw [HE.out.2, HE.out.1]; exact HR.out.1, HR.out.2⟩
      · have hz1 : ¬ (k : Int) < n := by omega
        go_wp2
        go_ret
        exact ⟨a, c, by rw [HE.out.2]; rfl, by rw [HE.out.2, HE.out.1]; exact HR.out.1, HR.out.2⟩
end Go.Proofs.YtmbkcmfcdjccoaaDoor
