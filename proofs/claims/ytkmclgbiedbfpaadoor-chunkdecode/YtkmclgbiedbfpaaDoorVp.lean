/- Any bytes are a chunk, or they are refused; a chunk has one form. -/
import Derived.Test.YtkmclgbiedbfpaaDoorVo
namespace Go.Proofs.YtkmclgbiedbfpaaDoor
open Go.RowKit Go.Maps Go.Shelf

theorem lent_at {w : World} {base g c : Nat} {bs : List UInt8} (h : w.ownsRow base 5 1 (.slice (some ⟨g, 0, none⟩) (bs.length + 4) c) (bs.length + 4) (byteVals (bs ++ marks))) : BytesAt w (.slice (some ⟨g, 0, none⟩) bs.length c) bs := by
  have h1 : BytesAt w (.slice (some ⟨g, 0, none⟩) (bs.length + 4) c) (bs ++ marks) := BytesAt.of_row (base := base) (by rw [List.length_append]; exact h)
  have h2 := h1.take bs.length (by omega)
  rw [List.take_left' rfl] at h2
  exact h2

set_option maxRecDepth 100000 in
set_option maxHeartbeats 8000000 in
theorem decodeLaw_any (v : Value) (l : List UInt8) (w : World) (h : BytesAt w v l) (hL : Laid w w.heap.size) :
    Calls Tryd.prog 5 #[v] w fun e w' => e = .returned (.bool true) ∧ Below w.heap.size w w' := by
  obtain ⟨a, c, rfl, hlc, hnn, -⟩ := id h
  have hmx : c ≤ 9223372036854775807 := by have h1 := hlc; unfold maxLen at h1; omega
  obtain ⟨n, hn⟩ : ∃ n, n = min 3000 l.length := ⟨_, rfl⟩
  have hs := h.take n (by omega)
  obtain ⟨bs, hbs⟩ : ∃ bs, bs = l.take n := ⟨_, rfl⟩
  rw [← hbs] at hs
  have hbl : bs.length = n := by rw [hbs]; simp; omega
  have cut : (n = 3000 ∧ (3000 : Int) < (l.length : Int) ∧ (3000 : Int) ≤ (c : Int) ∧ ∃ ad, a = some ad) ∨ (n = l.length ∧ (l.length : Int) ≤ 3000) := by
    rcases Nat.lt_or_ge 3000 l.length with h9 | h9
    · obtain ⟨b, o, e, -⟩ := h.one 0 (by omega)
      exact Or.inl ⟨by omega, by omega, by omega, _, e⟩
    · exact Or.inr ⟨by omega, by omega⟩
  -- the two ways
  have key : ∃ (no : Int) (dl : List Sm), ((no = 0 ∧ encR dl = bs ∧ dl.length ≤ 120) ∨ no = 8) ∧ dl.length ≤ 120 ∧
      Hid (∀ W V, BytesAt W V bs → Below w.heap.size w W → Calls Tryd.prog 20 #[V] W fun e w' => ∃ v', e = .returned (.tuple #[v', .int .i64 no]) ∧ SmpK W.heap.size w' v' dl ∧ Below W.heap.size W w') ∧
      Hid (∀ W V, BytesAt W V bs → Calls Tryd.prog 23 #[V] W fun e w' => ∃ v', e = .returned (.tuple #[v', .int .i64 no]) ∧ SmpK W.heap.size w' v' dl ∧ Below W.heap.size W w') := by
    by_cases hc : isCh bs
    · refine ⟨0, decR bs, Or.inl ⟨rfl, hc.2, hc.1⟩, hc.1, fun W V hV hW => (decode_any V bs W hV (by omega) ((hL.below hW).mono hW.size)).mono (fun e w' h9 => ?_), fun W V hV => (rdecode_any V bs W hV (by omega)).1 hc⟩
      rw [if_pos (show (decR bs).length ≤ 120 ∧ encR (decR bs) = bs from hc)] at h9
      obtain ⟨h1, v', h2, h3⟩ := h9
      exact ⟨v', h2, SmpK.of_row h3, h1⟩
    · refine ⟨8, [], Or.inr rfl, by decide, fun W V hV hW => (decode_any V bs W hV (by omega) ((hL.below hW).mono hW.size)).mono (fun e w' h9 => ?_), fun W V hV => (rdecode_any V bs W hV (by omega)).2 hc⟩
      rw [if_neg (show ¬ ((decR bs).length ≤ 120 ∧ encR (decR bs) = bs) from hc)] at h9
      exact ⟨_, h9.2, SmpK.nil, h9.1⟩
  obtain ⟨no, dl, hno, hdl, KD, KR⟩ := key
  have KL := lendB_any _ bs w hs (by omega)
  have KI : Hid (∀ W g cc, W.ownsRow w.heap.size 5 1 (.slice (some ⟨g, 0, none⟩) (bs.length + 4) cc) (bs.length + 4) (byteVals (bs ++ marks)) → Below w.heap.size w W → Calls Tryd.prog 24 #[.slice (some ⟨g, 0, none⟩) bs.length cc, .slice a n c] W fun e w' => e = .returned (.bool true) ∧ Kept (fun k => k = g) W w') := fun W g cc h1 h2 => intactB_any g cc _ bs w.heap.size W h1 (hs.below h2) (by omega)
  have KS : Hid (∀ W V U, SmpAt W V dl → SmpAt W U dl → Calls Tryd.prog 21 #[V, U] W fun e w' => e = .returned (.bool true) ∧ Below W.heap.size W w') := fun W V U h1 h2 => by
    have := samples_any V U dl dl W h1 h2 (by omega) (by omega)
    rw [show eqS dl dl = true from decide_eq_true rfl] at this
    exact this
  have KE : Hid (∀ W V, encR dl = bs → SmpAt W V dl → Below w.heap.size w W → Calls Tryd.prog 11 #[V] W fun e w' => ∃ v', e = .returned (.tuple #[v', .int .i64 0]) ∧ w'.ownsRow W.heap.size 5 1 v' bs.length (byteVals bs) ∧ Below W.heap.size W w') := fun W V he hV hW => by
    have := encode_any V dl W hV hdl ((hL.below hW).mono hW.size)
    rw [he] at this
    exact this
  have KW : Hid (∀ W, Below w.heap.size w W → Calls Tryd.prog 19 #[] W fun e w' => e = .returned (.bool true) ∧ Below W.heap.size W w') := fun W hW => wakes_any W ((hL.below hW).mono hW.size)
  have HT : Hid (∀ W V, BytesAt W V bs → (convert 24 9 V).run Tryd.prog W = .ok (.string ⟨bs.toArray⟩) W) := fun W V hV => hV.str
  have HS : Hid (∀ W, Below w.heap.size w W → BytesAt W (.slice a n c) bs) := fun W hb => hs.below hb
  generalize (⟨bs.toArray⟩ : ByteArray) = tx at *
  have HLE : Hid (∀ (W : World) (base g cc : Nat), W.ownsRow base 5 1 (.slice (some ⟨g, 0, none⟩) (bs.length + 4) cc) (bs.length + 4) (byteVals (bs ++ marks)) → BytesAt W (.slice (some ⟨g, 0, none⟩) bs.length cc) bs) := fun W base g cc h9 => lent_at h9
  clear h hs hL hbs hlc hnn
  have hno2 : (no = 0 ∧ Hid (encR dl = bs)) ∨ no = 8 := by
    rcases hno with ⟨h1, h2, _⟩ | h1
    · exact Or.inl ⟨h1, h2⟩
    · exact Or.inr h1
  clear hno
  rcases hno2 with ⟨rfl, HE⟩ | rfl
  all_goals
    rcases cut with ⟨rfl, hl1, hl2, ad, rfl⟩ | ⟨rfl, hl1⟩
    all_goals
      clear hn
      have HBL : Hid (bs.length = _) := hbl
      clear hbl
      go_enter Tryd.func5, Tryd.ntmps5
      go_wp2_with (first
        | (go_at_call 22; refine KL.mono ?_; clear KL; rintro e w1 ⟨g, cc, rfl, hr1, hb1⟩; have kd := KD.out w1 _ (HLE.out w1 _ g cc hr1) hb1; have HR1 : Hid (w1.ownsRow w.heap.size 5 1 (.slice (some ⟨g, 0, none⟩) (bs.length + 4) cc) (bs.length + 4) (byteVals (bs ++ marks))) := hr1; have HB1 : Hid (Below w.heap.size w w1) := hb1; clear KD HLE hr1 hb1)
        | (go_at_call 20; refine kd.mono ?_; clear kd; rintro e w2 ⟨v2, rfl, hv2, hb2⟩; obtain ⟨a2, c2, rfl, -, -, -⟩ := id hv2.now; have hbw2 : Below w.heap.size w w2 := HB1.out.trans (hb2.mono HB1.out.size); have kr := KR.out w2 _ (HS.out w2 hbw2); have HR2 : Hid (w2.ownsRow w.heap.size 5 1 (.slice (some ⟨g, 0, none⟩) (bs.length + 4) cc) (bs.length + 4) (byteVals (bs ++ marks))) := row_below HR1.out hb2; have HV2 : Hid (SmpK w1.heap.size w2 (.slice a2 dl.length c2) dl) := hv2; have HG2 : Hid (w.heap.size ≤ g ∧ g < w1.heap.size ∧ w1.heap.size ≤ w2.heap.size) := ⟨(World.ownsRow.lt HR1.out g rfl).1, (World.ownsRow.lt HR1.out g rfl).2, hb2.size⟩; have HBW2 : Hid (Below w.heap.size w w2) := hbw2; clear KR HR1 hv2 hb2 hbw2)
        | (go_at_call 23; refine kr.mono ?_; clear kr; rintro e w3 ⟨v3, rfl, hv3, hb3⟩; obtain ⟨a3, c3, rfl, -, -, -⟩ := id hv3.now; have hbw3 : Below w.heap.size w w3 := HBW2.out.trans (hb3.mono HBW2.out.size); have ki := KI.out w3 g cc (row_below HR2.out hb3) hbw3; have HV3 : Hid (SmpK w1.heap.size w3 (.slice a2 dl.length c2) dl ∧ SmpK w2.heap.size w3 (.slice a3 dl.length c3) dl) := ⟨HV2.out.below hb3, hv3⟩; have HBW3 : Hid (Below w.heap.size w w3) := hbw3; clear KI HR2 HV2 hv3 hb3 hbw3)
        | (go_at_call 24; refine ki.mono ?_; clear ki; rintro e w4 ⟨rfl, hk4⟩; have hbw4 : Below w.heap.size w w4 := HBW3.out.trans (hk4.toBelow HBW3.out.size (fun i hi => by have := HG2.out; omega)); have hv4 : SmpAt w4 (.slice a2 dl.length c2) dl := HV3.out.1 w4 (hk4.mono (fun i _ hi => by have := HG2.out; omega)); have hu4 : SmpAt w4 (.slice a3 dl.length c3) dl := HV3.out.2 w4 (hk4.mono (fun i _ hi => by have := HG2.out; omega)); have ks := KS.out w4 _ _ hv4 hu4; have HV4 : Hid (SmpAt w4 (.slice a2 dl.length c2) dl) := hv4; have HBW4 : Hid (Below w.heap.size w w4) := hbw4; clear KS HV3 hk4 hv4 hu4 hbw4)
        | (go_at_call 21; refine ks.mono ?_; clear ks; rintro e w5 ⟨rfl, hb5⟩; have hbw5 : Below w.heap.size w w5 := HBW4.out.trans (hb5.mono HBW4.out.size); have HV5 : Hid (SmpAt w5 (.slice a2 dl.length c2) dl) := HV4.out.below hb5; have HBW5 : Hid (Below w.heap.size w w5) := hbw5; clear HV4 hb5 hbw5)
        | (go_at_call 11; refine (KE.out w5 _ HE.out HV5.out HBW5.out).mono ?_; clear KE; rintro e w6 ⟨v6, rfl, hr6, hb6⟩; obtain ⟨a6, c6, rfl⟩ := slice_of_row hr6; have hbw6 : Below w.heap.size w w6 := HBW5.out.trans (hb6.mono HBW5.out.size); have t6 := HT.out w6 _ (BytesAt.of_row hr6); have t0 := HT.out w6 _ (HS.out w6 hbw6); have HBW6 : Hid (Below w.heap.size w w6) := hbw6; clear hr6 hb6 hbw6)
        | (go_at_call 19; refine (KW.out _ HBW6.out).mono ?_; clear KW; rintro e w7 ⟨rfl, hb7⟩; have HBW7 : Hid (Below w.heap.size w w7) := HBW6.out.trans (hb7.mono HBW6.out.size); clear hb7)
        | (go_at_call 19; refine (KW.out _ HBW5.out).mono ?_; clear KW; rintro e w7 ⟨rfl, hb7⟩; have HBW7 : Hid (Below w.heap.size w w7) := HBW5.out.trans (hb7.mono HBW5.out.size); clear hb7))
      go_ret
      exact ⟨rfl, HBW7.out⟩

end Go.Proofs.YtkmclgbiedbfpaaDoor
