/- Unlike samples have unlike chunks. -/
import Derived.Test.YtkmclgbiedbfpaaDoorKt
namespace Go.Proofs.YtkmclgbiedbfpaaDoor
open Go.RowKit Go.Shelf Go.Maps

theorem text_eq (x y : List UInt8) : ((⟨x.toArray⟩ : ByteArray).toList == (⟨y.toArray⟩ : ByteArray).toList) = decide (x = y) := by
  rw [ByteArray.toList_eq, ByteArray.toList_eq, Bool.eq_iff_iff]
  simp

set_option maxRecDepth 100000 in
set_option maxHeartbeats 4000000 in
theorem unlike_any (v u : Value) (l m : List Sm) (w : World) (h : SmpAt w v l) (h2 : SmpAt w u m) (hL : Laid w w.heap.size) :
    Calls Tryd.prog 7 #[v, u] w fun e w' => e = .returned (.bool true) ∧ Below w.heap.size w w' := by
  obtain ⟨a, c, rfl, hlc, -, -⟩ := id h
  obtain ⟨a2, c2, rfl, hlc2, -, -⟩ := id h2
  have key : ∀ (n k : Nat), n ≤ 120 → k ≤ 120 → n ≤ l.length → k ≤ m.length → ∃ (x y : List UInt8) (b : Bool),
      Hid (((⟨x.toArray⟩ : ByteArray).toList == (⟨y.toArray⟩ : ByteArray).toList) = b) ∧
      Hid (Calls Tryd.prog 11 #[.slice a n c] w (fun e w' => ∃ v', e = .returned (.tuple #[v', .int .i64 0]) ∧ w'.ownsRow w.heap.size 5 1 v' x.length (byteVals x) ∧ Below w.heap.size w w')) ∧
      Hid (∀ W, Below w.heap.size w W → Calls Tryd.prog 11 #[.slice a2 k c2] W (fun e w' => ∃ v', e = .returned (.tuple #[v', .int .i64 0]) ∧ w'.ownsRow W.heap.size 5 1 v' y.length (byteVals y) ∧ Below W.heap.size W w')) ∧
      Hid (∀ W, Below w.heap.size w W → Calls Tryd.prog 21 #[.slice a n c, .slice a2 k c2] W fun e w' => e = .returned (.bool b) ∧ Below W.heap.size W w') ∧
      Hid (∀ W, Below w.heap.size w W → Calls Tryd.prog 19 #[] W fun e w' => e = .returned (.bool true) ∧ Below W.heap.size W w') := fun n k hn hk hnl hkl => by
    have hs := h.take n hnl
    have hs2 := h2.take k hkl
    have e1 : (l.take n).length = n := by simp; omega
    have e2 : (m.take k).length = k := by simp; omega
    refine ⟨encR (l.take n), encR (m.take k), eqS (l.take n) (m.take k), ?_, encode_any _ _ w hs (by omega) hL, fun W hb => encode_any _ _ W (hs2.below hb) (by omega) ((hL.below hb).mono hb.size), fun W hb => samples_any _ _ _ _ W (hs.below hb) (hs2.below hb) (by omega) (by omega), fun W hb => wakes_any W ((hL.below hb).mono hb.size)⟩
    show _ = _
    rw [text_eq, eqS, decide_eq_decide]
    exact ⟨enc_inj (by omega) (by omega), fun h => by rw [h]⟩
  have hmx : c ≤ 9223372036854775807 := by have h1 := hlc; unfold maxLen at h1; omega
  have hmx2 : c2 ≤ 9223372036854775807 := by have h1 := hlc2; unfold maxLen at h1; omega
  obtain ⟨n, hn⟩ : ∃ n, n = min 120 l.length := ⟨_, rfl⟩
  obtain ⟨k, hk⟩ : ∃ k, k = min 120 m.length := ⟨_, rfl⟩
  -- cut, or not
  have cutl : (n = 120 ∧ (120 : Int) < (l.length : Int) ∧ (120 : Int) ≤ (c : Int) ∧ ∃ b o, a = some ⟨b, o, none⟩) ∨ (n = l.length ∧ (l.length : Int) ≤ 120) := by
    rcases Nat.lt_or_ge 120 l.length with h9 | h9
    · obtain ⟨b, o, e, -⟩ := h.one 0 (by omega)
      exact Or.inl ⟨by omega, by omega, by omega, b, o, e⟩
    · exact Or.inr ⟨by omega, by omega⟩
  have cutm : (k = 120 ∧ (120 : Int) < (m.length : Int) ∧ (120 : Int) ≤ (c2 : Int) ∧ ∃ b o, a2 = some ⟨b, o, none⟩) ∨ (k = m.length ∧ (m.length : Int) ≤ 120) := by
    rcases Nat.lt_or_ge 120 m.length with h9 | h9
    · obtain ⟨b, o, e, -⟩ := h2.one 0 (by omega)
      exact Or.inl ⟨by omega, by omega, by omega, b, o, e⟩
    · exact Or.inr ⟨by omega, by omega⟩
  obtain ⟨x, y, bq, KB, K1, K2, K3, K4⟩ := key n k (by omega) (by omega) (by omega) (by omega)
  have HSTR : Hid (∀ W V, BytesAt W V x → (convert 24 9 V).run Tryd.prog W = .ok (.string ⟨x.toArray⟩) W) := fun W V hV => hV.str
  have HSTR2 : Hid (∀ W V, BytesAt W V y → (convert 24 9 V).run Tryd.prog W = .ok (.string ⟨y.toArray⟩) W) := fun W V hV => hV.str
  generalize (⟨x.toArray⟩ : ByteArray) = tx at *
  generalize (⟨y.toArray⟩ : ByteArray) = ty at *
  have hB := KB.out
  clear key h h2 hL KB
  cases bq
  all_goals
    rcases cutl with ⟨rfl, hl1, hl2, b, o, rfl⟩ | ⟨rfl, hl1⟩
    all_goals
      rcases cutm with ⟨rfl, hm1, hm2, b2, o2, rfl⟩ | ⟨rfl, hm1⟩
      all_goals
        clear hn hk hlc hlc2
        go_enter Tryd.func7, Tryd.ntmps7
        go_wp2_with (first
          | (go_at_call 11; refine K1.out.mono ?_; clear K1; rintro e w1 ⟨v1, rfl, hr1, hb1⟩; obtain ⟨a1, c1, hv1⟩ := slice_of_row hr1; subst hv1; have hk2 := K2.out w1 hb1; clear K2; have hc1 := fun W hb => HSTR.out W _ ((BytesAt.of_row hr1).below hb); have HC1 : Hid (∀ W, Below w1.heap.size w1 W → (convert 24 9 (.slice a1 x.length c1)).run Tryd.prog W = .ok (.string tx) W) := hc1; have HB1 : Hid (Below w.heap.size w w1) := hb1; clear hr1 hb1 hc1)
          | (go_at_call 11; refine hk2.mono ?_; clear hk2; rintro e w2 ⟨v2, rfl, hr2, hb2⟩; obtain ⟨a3, c3, hv2⟩ := slice_of_row hr2; subst hv2; have hbw2 : Below w.heap.size w w2 := HB1.out.trans (hb2.mono HB1.out.size); have hc2 : ∀ W, Below w2.heap.size w2 W → (convert 24 9 (.slice a1 x.length c1)).run Tryd.prog W = .ok (.string tx) W ∧ (convert 24 9 (.slice a3 y.length c3)).run Tryd.prog W = .ok (.string ty) W := (fun W hb => ⟨HC1.out W (hb2.trans (hb.mono hb2.size)), HSTR2.out W _ ((BytesAt.of_row hr2).below hb)⟩); have HC2 : Hid (∀ W, Below w2.heap.size w2 W → (convert 24 9 (.slice a1 x.length c1)).run Tryd.prog W = .ok (.string tx) W ∧ (convert 24 9 (.slice a3 y.length c3)).run Tryd.prog W = .ok (.string ty) W) := hc2; have HB2 : Hid (Below w.heap.size w w2) := hbw2; clear hr2 hb2 hc2 HC1 HB1 hbw2))
        have d0 := HC2.out w2 (Below.refl _ _)
        have HD : Hid (Below w2.heap.size w2 w2.drew) := (Below.refl _ _).drew
        have d1 := HC2.out w2.drew HD.out
        go_region_held3 (fun w' => (convert 24 9 (.slice a1 x.length c1)).run Tryd.prog w' = .ok (.string tx) w' ∧ (convert 24 9 (.slice a3 y.length c3)).run Tryd.prog w' = .ok (.string ty) w')
          (first | exact d1 | exact d0 | exact f0 | exact f1)
          (first
            | (go_at_call 21; refine (K3.out _ (HB2.out.trans (HD.out.mono HB2.out.size))).mono ?_; clear K3; rintro e w3 ⟨rfl, hb3⟩; have HB3 : Hid (Below w2.heap.size w2 w3) := HD.out.trans (hb3.mono HD.out.size); have f0 := HC2.out w3 HB3.out; clear hb3)
            | (go_at_call 19; refine (K4.out _ (HB2.out.trans (HB3.out.mono HB2.out.size))).mono ?_; clear K4; rintro e w4 ⟨rfl, hb4⟩; have HB4 : Hid (Below w2.heap.size w2 w4) := HB3.out.trans (hb4.mono HB3.out.size); have f1 := HC2.out w4 HB4.out; clear hb4))
        go_wp2
        go_ret
        exact ⟨rfl, HB2.out.trans (HB4.out.mono HB2.out.size)⟩

end Go.Proofs.YtkmclgbiedbfpaaDoor
