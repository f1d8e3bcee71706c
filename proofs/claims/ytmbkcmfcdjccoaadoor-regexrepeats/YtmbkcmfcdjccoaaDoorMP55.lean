/- Texts that belong together. -/
import Derived.Test.YtmbkcmfcdjccoaaDoorMP54
import Derived.Test.YtmbkcmfcdjccoaaDoorMP52
import Derived.Test.YtmbkcmfcdjccoaaDoorYa
import Derived.BigQuiet
/- What the law of classes plays: clip, cut; texts that come in. -/
namespace Go.Proofs.YtmbkcmfcdjccoaaDoor
open Go.RowKit Go.Maps

/-- A slice that reads as these texts. -/
def TextsAt (w : World) (v : Value) (ss : List ByteArray) : Prop :=
  ∃ a c, v = .slice a ss.length c ∧ (ss.length ≤ c ∧ c ≤ maxLen) ∧ ∀ k (hk : k < ss.length), ∃ b o, a = some ⟨b, o, none⟩ ∧ b < w.heap.size ∧ w.cell? ⟨b, o + k, none⟩ = some (.string ss[k]) ∧ ss[k].size ≤ maxLen
theorem TextsAt.below {w w' : World} {v : Value} {ss : List ByteArray} (h : TextsAt w v ss) (hb : Below w.heap.size w w') : TextsAt w' v ss := by
  obtain ⟨a, c, e, hlc, hk⟩ := h
  refine ⟨a, c, e, hlc, fun k hlt => ?_⟩
  obtain ⟨b, o, ha, hl, h1, h2⟩ := hk k hlt
  have := hb.size
  exact ⟨b, o, ha, by omega, (hb.cell (p := ⟨b, o + k, none⟩) hl).trans h1, h2⟩
theorem TextsAt.one {w : World} {a : Option Addr} {c : Nat} {ss : List ByteArray} (h : TextsAt w (.slice a ss.length c) ss) (k : Nat) (hk : k < ss.length) : ∃ b o, a = some ⟨b, o, none⟩ ∧ ss[k].size ≤ maxLen ∧ ∀ w', Below w.heap.size w w' → w'.cell? ⟨b, o + k, none⟩ = some (.string ss[k]) := by
  obtain ⟨a', c', e, -, hc⟩ := h
  cases e
  obtain ⟨b, o, rfl, hb, h1, h2⟩ := hc k hk
  exact ⟨b, o, rfl, h2, fun w' hb' => (hb'.cell (p := ⟨b, o + k, none⟩) hb).trans h1⟩
/-- A text of no more bytes than are played. -/
def clipB (s : ByteArray) : ByteArray := if 60 < s.size then s.extract 0 60 else s
theorem clipB_size (s : ByteArray) : (clipB s).size ≤ 60 := by
  unfold clipB
  split
  · simp
    omega
  · omega
set_option maxRecDepth 100000 in
theorem clip_any (s : ByteArray) (w : World) : Calls Tryd.prog 6 #[.string s] w fun e w' => e = .returned (.string (clipB s)) ∧ w' = w := by
  by_cases h : 60 < s.size
  · have e : clipB s = s.extract 0 60 := by unfold clipB; rw [if_pos h]
    have hz : (60 : Int) < s.size := by omega
    go_enter Tryd.func6, Tryd.ntmps6
    go_wp2
    go_ret
    exact ⟨by first | rfl | (rw [e]; rfl), rfl⟩
  · have e : clipB s = s := by unfold clipB; rw [if_neg h]
    have hz : ¬ (60 : Int) < s.size := by omega
    go_enter Tryd.func6, Tryd.ntmps6
    go_wp2
    go_ret
    exact ⟨by first | rfl | (rw [e]; rfl), rfl⟩
theorem appTxt : App Tryd.prog 22 9 1 := App.of (z := .string ByteArray.empty) (bytes := 16) Tryd.underlying22 (by kernel_rfl) rfl (by decide) (by decide)
def txC (l : List ByteArray) : List Value := l.map Value.string
/-- At most twelve texts, each short. -/
def cutB (l : List ByteArray) : List ByteArray := (l.take 12).map clipB
set_option maxRecDepth 100000 in
set_option maxHeartbeats 800000 in
theorem cut_any (v : Value) (ss : List ByteArray) (w : World) (h : TextsAt w v ss) : Calls Tryd.prog 13 #[v] w fun e w' => ∃ a c, e = .returned (.slice a (cutB ss).length c) ∧ w'.ownsRow w.heap.size 9 1 (.slice a (cutB ss).length c) (cutB ss).length (txC (cutB ss)) ∧ Below w.heap.size w w' := by
  obtain ⟨va, vc, rfl, -⟩ := id h
  have HT := hide h
  clear h
  obtain ⟨n, hn⟩ : ∃ n, n = ss.length := ⟨_, rfl⟩
  have HN := hide hn
  rw [← hn] at HT ⊢
  clear hn
  go_enter Tryd.func13, Tryd.ntmps13
  go_wp2
  go_loopw [3, 4] (fun ov iv wx => ∃ (k : Nat) (a : Option Addr) (c : Nat), iv = .int .i64 k ∧ k ≤ n ∧ k ≤ 12 ∧ ov = .slice a k c ∧ Hid (wx.ownsRow w.heap.size 9 1 (.slice a k c) k (txC ((ss.take k).map clipB)) ∧ Below w.heap.size w wx)) (fun _ iv _ => 12 - (intOf iv).toNat)
  case atStart => exact ⟨0, none, 0, rfl, Nat.zero_le _, Nat.zero_le _, rfl, by simpa [txC] using World.ownsRow_nil w w.heap.size 9 1, Below.refl _ _⟩
  case round =>
    obtain ⟨k, a, c, rfl, hk, hk12, rfl, HR⟩ := hrel
    by_cases hlt : k < n ∧ k < 12
    · obtain ⟨h1, h2⟩ := hlt
      have hkl : k < ss.length := by rw [← HN.out]; exact h1
      have hz1 : (k : Int) < n := by omega
      have hz2 : (k : Int) < 12 := by omega
      have hT2 := HT.out
      rw [HN.out] at hT2
      obtain ⟨b, o, rfl, hsz, hc⟩ := hT2.one k hkl
      have c0 := hc wr HR.out.2
      have hx : (ss.take (k + 1)).map clipB = (ss.take k).map clipB ++ [clipB ss[k]] := by rw [List.take_succ_eq_append_getElem hkl, List.map_append]; rfl
      generalize ss[k] = x at *
      have HX := hide hx
      have hA : ∀ o, (wr.alloc o).ownsRow w.heap.size 9 1 (.slice a k c) k (txC ((ss.take k).map clipB)) := fun o => World.ownsRow.alloc HR.out.1 o
      have HA := hide hA
      clear hc hT2 hx hA
      go_wp2_with (first
        | (go_at_call 6; refine (clip_any x _).mono ?_; rintro e w1 ⟨rfl, hw1⟩; have hw1 := hw1.symm; subst hw1)
        | (at_builtin; refine wpList_append_row appTxt _ rfl _ _ rfl w.heap.size (.slice a k c) k (txC ((ss.take k).map clipB)) rfl (HA.out _) _ 1 [.string (clipB x)] rfl (RowAt.of_block (cs := #[.string (clipB x)]) (heap_alloc_new _ _) rfl (by decide)) (by simp [Value.oneCell']) (by omega) (by have := HR.out.2.size; simp; omega) ?_; intro a5 c5 w5 hr5 hg5 _; have hR5 : w5.ownsRow w.heap.size 9 1 (.slice a5 (k + 1) c5) (k + 1) (txC ((ss.take (k + 1)).map clipB)) ∧ Below w.heap.size w w5 := ⟨by rw [HX.out]; simpa [txC] using hr5, (HR.out.2.alloc HR.out.2.size _).grown hg5 (by have := HR.out.2.size; simp; omega) (fun i hi => (World.ownsRow.lt HR.out.1 i hi).1)⟩; have HR5 := hide hR5; clear hR5 hr5 hg5))
      go_roundw
      case rel => exact ⟨k + 1, a5, c5, by go_num, by omega, by omega, rfl, HR5⟩
      case measure => simp [intOf]; omega
    · have hend : cutB ss = (ss.take k).map clipB ∧ (cutB ss).length = k := by
        have h9 := HN.out
        have h8 : ss.take 12 = ss.take k := by
          by_cases h7 : k < 12
          · rw [List.take_of_length_le (by omega), List.take_of_length_le (by omega)]
          · rw [show k = 12 by omega]
        unfold cutB
        rw [h8]
        refine ⟨rfl, by simp; omega⟩
      have HE := hide hend
      clear hend
      by_cases h1 : k < n
      · have hz1 : (k : Int) < n := by omega
        have hz2 : ¬ (k : Int) < 12 := by omega
        go_wp2
        go_ret
        exact ⟨a, c, by rw [HE.out.2]; rfl, by rw [HE.out.2, HE.out.1]; exact HR.out.1, HR.out.2⟩
      · have hz1 : ¬ (k : Int) < n := by omega
        go_wp2
        go_ret
        exact ⟨a, c, by rw [HE.out.2]; rfl, by rw [HE.out.2, HE.out.1]; exact HR.out.1, HR.out.2⟩
end Go.Proofs.YtmbkcmfcdjccoaaDoor

/- The law of alternatives and rows: does an expression speak of the ends; can a text be cut. -/
namespace Go.Proofs.YtmbkcmfcdjccoaaDoor
open Go.RowKit Go.Maps

theorem anch_hit {s : ByteArray} {k : Nat} (h : k < s.size) (hc : s[k].toNat = 94 ∨ s[k].toNat = 36) : anchB s = true := by
  have hl : k < s.data.toList.length := by rw [Array.length_toList]; exact h
  refine List.any_eq_true.2 ⟨s[k], ?_, ?_⟩
  · show s.data[k] ∈ s.data.toList
    simp
  · rcases hc with hc | hc
    · have : s[k] = 94 := UInt8.toNat_inj.1 hc
      rw [this]
      rfl
    · have : s[k] = 36 := UInt8.toNat_inj.1 hc
      rw [this]
      rfl
theorem anch_miss {s : ByteArray} {k : Nat} (h : k < s.size) (h1 : s[k].toNat ≠ 94) (h2 : s[k].toNat ≠ 36) (hA : (s.data.toList.take k).any (fun b => b == 94 || b == 36) = false) : (s.data.toList.take (k + 1)).any (fun b => b == 94 || b == 36) = false := by
  have hl : k < s.data.toList.length := by rw [Array.length_toList]; exact h
  have e : s.data.toList[k] = s[k] := by
    show s.data.toList[k] = s.data[k]
    simp
  rw [List.take_succ_eq_append_getElem hl, List.any_append, hA, e]
  have k1 : s[k] ≠ 94 := fun e => h1 (by rw [e]; rfl)
  have k2 : s[k] ≠ 36 := fun e => h2 (by rw [e]; rfl)
  simp [k1, k2]
set_option maxRecDepth 100000 in
theorem anchored_any (s : ByteArray) (w : World) (hs : s.size ≤ 60) : Calls Tryd.prog 14 #[.string s] w fun e w' => e = .returned (.bool (anchB s)) ∧ w' = w := by
  go_enter Tryd.func14, Tryd.ntmps14
  go_wp2
  go_loop [3] (fun i => ∃ k : Nat, k ≤ s.size ∧ i = .int .i64 k ∧ Hid ((s.data.toList.take k).any (fun b => b == 94 || b == 36) = false)) (fun i => s.size - (intOf i).toNat)
  case atStart => exact ⟨0, Nat.zero_le _, rfl, rfl⟩
  case round =>
    obtain ⟨k, hk, rfl, HA⟩ := hrel
    by_cases hlt : k < s.size
    · have hz : (k : Int) < s.size := by omega
      have HT : Hid (s[k].toNat = 94 ∨ s[k].toNat = 36 → anchB s = true) := anch_hit hlt
      have HF : Hid (s[k].toNat ≠ 94 → s[k].toNat ≠ 36 → (s.data.toList.take (k + 1)).any (fun b => b == 94 || b == 36) = false) := fun h1 h2 => anch_miss hlt h1 h2 HA.out
      generalize hc : s[k].toNat = c at *
      by_cases h1 : c = 94
      · subst h1
        have HN := hide (HT.out (Or.inl rfl))
        clear HT HF
        go_wp2
        go_ret
        exact ⟨ret_bool HN.out.symm, rfl⟩
      · by_cases h2 : c = 36
        · subst h2
          have HN := hide (HT.out (Or.inr rfl))
          clear HT HF h1
          go_wp2
          go_ret
          exact ⟨ret_bool HN.out.symm, rfl⟩
        · have HN := hide (HF.out h1 h2)
          have z1 : ¬ (c : Int) = 94 := by omega
          have z2 : ¬ (c : Int) = 36 := by omega
          clear HT HF h1 h2
          go_wp2
          all_goals first
            | (exfalso
               rename_i h9 _
               rcases h9 with h9 | h9
               · have := eq_of_beq h9
                 omega
               · have := eq_of_beq h9
                 omega)
            | (go_round
               case rel => exact ⟨k + 1, by omega, by go_num, HN⟩
               case measure => simp [intOf]; omega)
    · have HN : Hid (anchB s = false) := by
        have h9 := HA.out
        rw [List.take_of_length_le (by rw [Array.length_toList]; exact Nat.le_of_not_lt hlt)] at h9
        exact h9
      have hz : ¬ (k : Int) < s.size := by omega
      clear HA
      go_wp2
      go_ret
      exact ⟨ret_bool HN.out.symm, rfl⟩
theorem pos_last {u : ByteArray} {k : Nat} (h : posK u k = u.size) {j : Nat} (hj : k ≤ j) : posK u j = posK u k := by
  have h1 := pos_mono u hj
  have h2 := pos_le u j
  omega
/-- Can a text be cut into what two parts mean? -/
def CutP (x y : Nd) (u : ByteArray) : Prop := ∃ k, matB x (u.extract 0 (posK u k)) = true ∧ matB y (u.extract (posK u k) u.size) = true
set_option maxRecDepth 100000 in
set_option maxHeartbeats 1600000 in
theorem cuts_any (p q : Nat) (x y : Nd) (u : ByteArray) (w : World) (hu : u.size ≤ 60)
    (HP : Hid (∀ W v, Below w.heap.size w W → v.size ≤ 60 → Calls Tryd.prog 12 #[.pointer (some ⟨p, 0, none⟩), .string v] W fun e w' => e = .returned (.bool (matB x v)) ∧ Below W.heap.size W w'))
    (HQ : Hid (∀ W v, Below w.heap.size w W → v.size ≤ 60 → Calls Tryd.prog 12 #[.pointer (some ⟨q, 0, none⟩), .string v] W fun e w' => e = .returned (.bool (matB y v)) ∧ Below W.heap.size W w')) :
    Calls Tryd.prog 15 #[.pointer (some ⟨p, 0, none⟩), .pointer (some ⟨q, 0, none⟩), .string u] w fun e w' => ∃ b, e = .returned (.bool b) ∧ (b = true ↔ CutP x y u) ∧ Below w.heap.size w w' := by
  go_enter Tryd.func15, Tryd.ntmps15
  go_wp2
  go_loopw [7] (fun i wx => ∃ (k c : Nat), c ≤ u.size ∧ i = .int .i64 c ∧ Hid (c = posK u k ∧ ∀ j, j < k → ¬ (matB x (u.extract 0 (posK u j)) = true ∧ matB y (u.extract (posK u j) u.size) = true)) ∧ Hid (Below w.heap.size w wx)) (fun i _ => u.size - (intOf i).toNat)
  case atStart => exact ⟨0, 0, Nat.zero_le _, rfl, ⟨rfl, fun j hj => absurd hj (Nat.not_lt_zero _)⟩, Below.refl _ _⟩
  case round =>
    obtain ⟨k, c, hc, rfl, HK, HB⟩ := hrel
    have hz : (c : Int) ≤ u.size := by omega
    have HM1 : Hid (∀ W, Below w.heap.size w W → Calls Tryd.prog 12 #[.pointer (some ⟨p, 0, none⟩), .string (u.extract 0 c)] W fun e w' => e = .returned (.bool (matB x (u.extract 0 c))) ∧ Below W.heap.size W w') := fun W hW => HP.out W _ hW (by rw [size_cut hc]; omega)
    have HM2 : Hid (∀ W, Below w.heap.size w W → Calls Tryd.prog 12 #[.pointer (some ⟨q, 0, none⟩), .string (u.extract c u.size)] W fun e w' => e = .returned (.bool (matB y (u.extract c u.size))) ∧ Below W.heap.size W w') := fun W hW => HQ.out W _ hW (by rw [size_rest]; omega)
    have HYES : Hid (matB x (u.extract 0 c) = true → matB y (u.extract c u.size) = true → CutP x y u) := fun h1 h2 => ⟨k, by rw [← HK.out.1]; exact h1, by rw [← HK.out.1]; exact h2⟩
    have HNO : Hid (¬ (matB x (u.extract 0 c) = true ∧ matB y (u.extract c u.size) = true) → ∀ j, j < k + 1 → ¬ (matB x (u.extract 0 (posK u j)) = true ∧ matB y (u.extract (posK u j) u.size) = true)) := fun h j hj => by
      rcases Nat.lt_succ_iff_lt_or_eq.1 hj with h1 | h1
      · exact HK.out.2 j h1
      · subst h1
        rw [← HK.out.1]
        exact h
    generalize matB x (u.extract 0 c) = M1 at *
    generalize matB y (u.extract c u.size) = M2 at *
    go_upto_region 3 with fail
    go_cut [24] from 13 to 24 (fun bv wx => bv = .bool (M1 && M2) ∧ Hid (Below w.heap.size w wx))
    case first =>
      clear HYES HNO HK
      cases M1 with
      | true =>
        go_wp2_with (first
          | (go_at_call 12; refine (HM1.out _ HB.out).mono ?_; clear HM1; rintro e w1 ⟨rfl, hb1⟩; have HB1 : Hid (Below w.heap.size w w1) := HB.out.trans (hb1.mono HB.out.size); clear hb1)
          | (go_at_call 12; refine (HM2.out _ HB1.out).mono ?_; clear HM2; rintro e w2 ⟨rfl, hb2⟩; have HB2 : Hid (Below w.heap.size w w2) := HB1.out.trans (hb2.mono HB1.out.size); clear hb2))
        go_meet
        case rel => exact ⟨by simp, HB2⟩
      | false =>
        go_wp2_with (go_at_call 12; refine (HM1.out _ HB.out).mono ?_; clear HM1; rintro e w1 ⟨rfl, hb1⟩; have HB1 : Hid (Below w.heap.size w w1) := HB.out.trans (hb1.mono HB.out.size); clear hb1)
        go_meet
        case rel => exact ⟨by simp, HB1⟩
    case rest =>
      clear HB HM1 HM2
      obtain ⟨rfl, HB⟩ := hcut
      by_cases hyes : M1 = true ∧ M2 = true
      · obtain ⟨rfl, rfl⟩ := hyes
        have HY := hide (HYES.out rfl rfl)
        clear HYES HNO HK
        go_wp2_with fail
        go_ret
        exact ⟨true, rfl, ⟨fun _ => HY.out, fun _ => rfl⟩, HB.out⟩
      · have HN := hide (HNO.out hyes)
        have hM : (M1 && M2) = false := by
          cases M1 <;> cases M2 <;> first | rfl | exact absurd ⟨rfl, rfl⟩ hyes
        rw [hM]
        clear HYES HNO hyes hM
        by_cases hcs : c = u.size
        · have HF : Hid (¬ CutP x y u) := by
            rintro ⟨j, h1, h2⟩
            rcases Nat.lt_or_ge j (k + 1) with h3 | h3
            · exact HN.out j h3 ⟨h1, h2⟩
            · have h4 := pos_last (u := u) (k := k) (by rw [← HK.out.1]; exact hcs) (j := j) (by omega)
              rw [h4] at h1 h2
              exact HN.out k (by omega) ⟨h1, h2⟩
          have hz2 : (c : Int) = u.size := by omega
          clear HN HK
          go_wp2_with fail
          go_ret
          exact ⟨false, rfl, ⟨fun h => (by cases h), fun h => absurd h HF.out⟩, HB.out⟩
        · have hlt : c < u.size := by omega
          have HU8 : Hid (∀ W, Calls Tryd.prog 17 #[.string u, .int .i64 c] W fun e w' => e = .returned (.int .i64 (wAt u c)) ∧ w' = W) := fun W => utf8_any u c W (by omega) hlt
          have hz2 : ¬ (c : Int) = u.size := by omega
          have hwd := char_width hlt
          have hch := charR_ok hlt
          have HNX : Hid (c + (charR u c).2 = posK u (k + 1)) := by
            show _ = _
            rw [posK, ← HK.out.1, if_pos hlt]
          generalize wAt u c = A at *
          generalize (charR u c).2 = m at *
          obtain ⟨hm1, hm2, -⟩ := hch
          clear HK
          by_cases hA : A = 0
          · rw [if_pos hA] at hwd
            subst hA hwd
            go_wp2_with (go_at_call 17; refine (HU8.out _).mono ?_; rintro e w4 ⟨rfl, hw4⟩; have hw4 := hw4.symm; subst hw4)
            go_roundw
            case rel => exact ⟨k + 1, c + 1, hm2, by go_num, ⟨HNX.out, HN.out⟩, HB⟩
            case measure => simp [intOf]; omega
          · rw [if_neg hA] at hwd
            subst hwd
            have hA' : ¬ (m : Int) = 0 := by omega
            clear hA
            go_wp2_with (go_at_call 17; refine (HU8.out _).mono ?_; rintro e w4 ⟨rfl, hw4⟩; have hw4 := hw4.symm; subst hw4)
            go_roundw
            case rel => exact ⟨k + 1, c + m, hm2, by go_num, ⟨HNX.out, HN.out⟩, HB⟩
            case measure => simp [intOf]; omega
end Go.Proofs.YtmbkcmfcdjccoaaDoor

/- What is compiled means what it means: the contract of Compile and Match as one. -/
namespace Go.Proofs.YtmbkcmfcdjccoaaDoor
open Go.RowKit Go.Maps

/-- A program in memory that means what a part means, in every world that grows from this one. -/
def MatS (w : World) (p : Nat) (x : Nd) : Prop := ∀ W y, Below w.heap.size w W → y.size ≤ 60 → Calls Tryd.prog 12 #[.pointer (some ⟨p, 0, none⟩), .string y] W fun e w' => e = .returned (.bool (matB x y)) ∧ Below W.heap.size W w'
theorem MatS.below {w W : World} {p : Nat} {x : Nd} (h : MatS w p x) (hb : Below w.heap.size w W) : MatS W p x := fun V y hV hy => h V y (hb.trans (hV.mono hb.size)) hy
/-- What comes of Compile: an expression, or none: then too large, or not one. -/
def CmQ (s : ByteArray) (e : Ending) (w' : World) : Prop := match compR s with
  | .ok x _ => ∃ p, e = .returned (.tuple #[.pointer (some ⟨p, 0, none⟩), .int .i64 0, .int .i64 0]) ∧ MatS w' p x
  | .large => e = .returned (.tuple #[.pointer none, .int .i64 0, .int .i64 9])
  | .no i => e = .returned (.tuple #[.pointer none, .int .i64 i, .int .i64 8])
theorem comp_mat (B : Nat) (s : ByteArray) (W : World) (hE : Env8 W B) (hB : B ≤ W.heap.size) : Calls Tryd.prog 10 #[.string s] W fun e w' => Below W.heap.size W w' ∧ CmQ s e w' := by
  refine (compile_any B s W hE hB).mono ?_
  rintro e w' ⟨hb, h⟩
  refine ⟨hb, ?_⟩
  unfold CmQ
  cases hc : compR s with
  | large => rw [hc] at h; exact h
  | no i => rw [hc] at h; exact h
  | ok x g =>
    rw [hc] at h
    obtain ⟨p, ms, rfl, hms, hpg⟩ := h
    refine ⟨p, rfl, fun V y hV hy => ?_⟩
    have hp := PgS.below (x := x) (g := g) ⟨ms, hms, hpg⟩ (fun i hi => hi.2) hV
    have hz := hb.size
    exact match_any B p g _ x y V hp (known_of hc) (fun i hi => Nat.lt_of_lt_of_le hi.2 hV.size) ((hE.below (hb.mono hB)).below (hV.mono (by omega))) (by have := hV.size; omega) (by omega)
/-- Compile, of what is no expression. -/
theorem comp_bad {s : ByteArray} {e : Ending} {w' : World} (h : CmQ s e w') (hn : ∀ x g, compR s ≠ .ok x g) : ∃ i E : Int, e = .returned (.tuple #[.pointer none, .int .i64 i, .int .i64 E]) ∧ E ≠ 0 := by
  unfold CmQ at h
  cases hc : compR s with
  | large => rw [hc] at h; exact ⟨0, 9, h, by decide⟩
  | no i => rw [hc] at h; exact ⟨i, 8, h, by decide⟩
  | ok x g => exact absurd hc (hn x g)
theorem comp_some {s : ByteArray} {e : Ending} {w' : World} (h : CmQ s e w') : ∃ v1 v2 : Value, ∃ E : Int, e = .returned (.tuple #[v1, v2, .int .i64 E]) := by
  unfold CmQ at h
  cases hc : compR s with
  | large => rw [hc] at h; exact ⟨_, _, _, h⟩
  | no i => rw [hc] at h; exact ⟨_, _, _, h⟩
  | ok x g => rw [hc] at h; obtain ⟨p, rfl, _⟩ := h; exact ⟨_, _, _, rfl⟩
theorem comp_good {s : ByteArray} {e : Ending} {w' : World} {x : Nd} {g : Nat} (h : CmQ s e w') (hc : compR s = .ok x g) : ∃ p, e = .returned (.tuple #[.pointer (some ⟨p, 0, none⟩), .int .i64 0, .int .i64 0]) ∧ MatS w' p x := by
  unfold CmQ at h
  rw [hc] at h
  exact h
/-- What Compile tells where what is read is an expression or too large. -/
def LgQ (R : Nd → Prop) (v : Value) (E : Int) (w : World) : Prop := (v = .pointer none ∧ E = 9) ∨ ∃ p x, v = .pointer (some ⟨p, 0, none⟩) ∧ E = 0 ∧ MatS w p x ∧ R x
theorem comp_lg {s : ByteArray} {e : Ending} {w' : World} {R : Nd → Prop} (h : CmQ s e w') (hc : compR s = .large ∨ ∃ y g, compR s = .ok y g ∧ R y) : ∃ v E, e = .returned (.tuple #[v, .int .i64 0, .int .i64 E]) ∧ LgQ R v E w' := by
  rcases hc with hc | ⟨y, g, hc, hR⟩
  · unfold CmQ at h
    rw [hc] at h
    exact ⟨_, _, h, Or.inl ⟨rfl, rfl⟩⟩
  · obtain ⟨p, h1, h2⟩ := comp_good h hc
    exact ⟨_, _, h1, Or.inr ⟨p, y, rfl, rfl, h2, hR⟩⟩
end Go.Proofs.YtmbkcmfcdjccoaaDoor

/- A region that draws its order, whose calls write elsewhere, with guards that are false: in the order of the text. -/
namespace Go.Proofs.YtmbkcmfcdjccoaaDoor
open Go.RowKit

/-- Worlds that are below as w was. -/
def Cls (w W : World) : Prop := Below w.heap.size w W
theorem wp_region_class {P : Program} {id : Nat} {Q : Exit → Act → World → Prop} {a : Act} {w : World} {l : List Oper} {C : World → Prop} (hm : P.follows .mixedOrders = true) (hB : Region.lexB .any l.toArray = true) (hC : C w.drew)
    (h : wpQuiet P l.toArray C (fun a' => ∀ w', C w' → Q .normal a' w') l a) : (Code.region id l.toArray true).wp P Q a w :=
  wp_region_quiet (C := C) hm hB hC (by simpa using h)

theorem wpQuiet_val {P : Program} {ops : Array Oper} {C : World → Prop} {Q : Act → Prop} {a : Act} {o : Oper} {rest : List Oper} (v : Value) (hw : Region.wanted o (yielded ops a.tmps) = true) (h : ∀ w, C w → o.quietAt P a C w v) (hn : wpQuiet P ops C Q rest (a.put o.dst v)) : wpQuiet P ops C Q (o :: rest) a := by
  unfold wpQuiet
  rw [if_pos hw]
  exact ⟨v, h, hn⟩
theorem wpQuiet_not {P : Program} {ops : Array Oper} {C : World → Prop} {Q : Act → Prop} {a : Act} {o : Oper} {rest : List Oper} (hw : Region.wanted o (yielded ops a.tmps) = false) (hn : wpQuiet P ops C Q rest (a.put o.dst undef)) : wpQuiet P ops C Q (o :: rest) a := by
  unfold wpQuiet
  rw [if_neg (by rw [hw]; simp)]
  exact hn

def skipA : List Oper → Nat → Act → Act
  | o :: rest, k + 1, a => skipA rest k (a.put o.dst undef)
  | _, _, a => a
def skipsB (ops : Array Oper) : List Oper → Nat → Act → Bool
  | o :: rest, k + 1, a => !(Region.wanted o (yielded ops a.tmps)) && skipsB ops rest k (a.put o.dst undef)
  | _, _, _ => true
theorem wpQuiet_skips {P : Program} {ops : Array Oper} {C : World → Prop} {Q : Act → Prop} : ∀ (rest : List Oper) (k : Nat) (a : Act), skipsB ops rest k a = true → wpQuiet P ops C Q (rest.drop k) (skipA rest k a) → wpQuiet P ops C Q rest a
  | [], _, _, _, h => by simpa [skipA] using h
  | _ :: _, 0, _, _, h => by simpa [skipA] using h
  | o :: rest, k + 1, a, hs, h => by
    unfold skipsB at hs
    rw [Bool.and_eq_true] at hs
    refine wpQuiet_not (by simpa using hs.1) ?_
    exact wpQuiet_skips rest k _ hs.2 (by simpa [skipA] using h)
theorem wpQuiet_val_skips {P : Program} {ops : Array Oper} {C : World → Prop} {Q : Act → Prop} {a : Act} {o : Oper} {rest : List Oper} (k : Nat) (v : Value) (hw : Region.wanted o (yielded ops a.tmps) = true) (h : ∀ w, C w → o.quietAt P a C w v) (hs : skipsB ops rest k (a.put o.dst v) = true)
    (hn : wpQuiet P ops C Q (rest.drop k) (skipA rest k (a.put o.dst v))) : wpQuiet P ops C Q (o :: rest) a :=
  wpQuiet_val v hw h (wpQuiet_skips rest k _ hs hn)

end Go.Proofs.YtmbkcmfcdjccoaaDoor
