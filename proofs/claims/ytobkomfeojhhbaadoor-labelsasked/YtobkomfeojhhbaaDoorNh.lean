/- LabelsAsked, walked. -/
import Derived.Test.YtobkomfeojhhbaaDoorNc
import Derived.Test.YtobkomfeojhhbaaDoorNe
import Derived.Test.YtobkomfeojhhbaaDoorNg
import Derived.Test.YtobkomfeojhhbaaDoorMc
import Derived.Test.YtobkomfeojhhbaaDoorLh
import Derived.Test.YtobkomfeojhhbaaDoorSc
import Derived.Test.YtobkomfeojhhbaaDoorNa
import Derived.Deep.RegionHeld3
namespace Go.Proofs.YtobkomfeojhhbaaDoor
open Go.RowKit Go.Maps

theorem TextsAt.take {w : World} {a : Option Addr} {n c : Nat} {ss : List ByteArray} (h : TextsAt w (.slice a n c) ss) (k : Nat) (hk : k ≤ n) : TextsAt w (.slice a k c) (ss.take k) := by
  obtain ⟨a', c', e, hlc, hc⟩ := h
  cases e
  have hl : (ss.take k).length = k := by simp; omega
  refine ⟨a, c, by rw [hl], ⟨by omega, hlc.2⟩, fun i hi => ?_⟩
  obtain ⟨b, o, e, h1, h2, h3⟩ := hc i (by omega)
  have e9 : (ss.take k)[i] = ss[i]'(by omega) := by simp
  exact ⟨b, o, e, h1, by rw [h2, e9], by rw [e9]; exact h3⟩
theorem TextsAt.at {w : World} {a : Option Addr} {c n : Nat} {ss : List ByteArray} (h : TextsAt w (.slice a n c) ss) (k : Nat) (hk : k < ss.length) : ∃ b o, a = some ⟨b, o, none⟩ ∧ ss[k].size ≤ maxLen ∧ ∀ w', Below w.heap.size w w' → w'.cell? ⟨b, o + k, none⟩ = some (.string ss[k]) := by
  obtain ⟨a', c', e, -, hc⟩ := h
  cases e
  obtain ⟨b, o, rfl, hb, h1, h2⟩ := hc k hk
  exact ⟨b, o, rfl, h2, fun w' hb' => (hb'.cell (p := ⟨b, o + k, none⟩) hb).trans h1⟩
theorem eqL_self (s : List Lb) : eqL s s = true := by simp [eqL]
theorem eqT_self (s : List ByteArray) : eqT s s = true := by simp [eqT]
theorem row_texts_empty (W : World) (base : Nat) (hb : base ≤ W.heap.size) : (W.alloc (.cells #[] 9 (0, 0))).ownsRow base 9 1 (.slice (some ⟨W.heap.size, 0, none⟩) 0 0) 0 [] :=
  ⟨rfl, Or.inr ⟨W.heap.size, 0, #[], rfl, hb, heap_alloc_new W _, Nat.le_refl _, Nat.zero_le _, rfl, rfl⟩⟩

/-- What With answers of a set is short. -/
theorem withL_length (ls : List Lb) (hs : Strict ls) (n v : ByteArray) : (withL ls n v).length ≤ ls.length + 1 := by
  rw [withL_ref hs]
  unfold refWithL
  have h1 := chosenL_length ls [n] false
  split
  · omega
  · rw [putL_length]; omega

set_option maxRecDepth 100000 in
set_option maxHeartbeats 8000000 in
theorem asked_any (v u : Value) (ls : List Lb) (ns : List ByteArray) (val : ByteArray) (w : World) (h : LabsAt w v ls) (hsz : Sized ls) (hn : TextsAt w u ns) (hT : Tabs w) :
    Calls Tryd.prog 4 #[v, u, .string val] w fun e w' => e = .returned (.bool true) ∧ Below w.heap.size w w' := by
  have hset := set_any v ls w h hsz
  have hs := setL_right ls
  obtain ⟨a, c, rfl, -, -⟩ := id h
  obtain ⟨an, cn, rfl, hlc, -⟩ := id hn
  generalize setL ls = s at *
  have hs64 := ((rightS_iff s).1 hs).1
  have hstr := ((rightS_iff s).1 hs).2.1
  have hsh := right_Short hs
  have HN : Hid (TextsAt w (.slice an ns.length cn) ns) := hn
  have hmx : cn ≤ 9223372036854775807 := by have h1 := hlc; unfold maxLen at h1; omega
  have hn20s : ∀ x ∈ ns.take 20, x.size ≤ maxLen := fun x hx => hn.sizes x (List.mem_of_mem_take hx)
  have hn20l : (ns.take 20).length ≤ 20 := by simp; omega
  clear h hsz hn
  obtain ⟨n20, hn20⟩ : ∃ n20, n20 = ns.take 20 := ⟨_, rfl⟩
  rw [← hn20] at hn20s hn20l
  have HT1 : Hid (∀ V W, LabsAt W V s → Calls Tryd.prog 18 #[V] W fun e w' => e = .returned (.string ⟨(textL s).toArray⟩) ∧ Below W.heap.size W w') := fun V W hV => text_any V s W hV (by omega) hsh
  have HT2 : Hid (∀ V W, LabsAt W V s → Calls Tryd.prog 19 #[V] W fun e w' => e = .returned (.string ⟨(textL s).toArray⟩) ∧ Below W.heap.size W w') := fun V W hV => (refText_any V s W hV (by omega) hsh).mono fun e w' ⟨o, he, ho, hb⟩ => ⟨by rw [he]; congr 2; cases o; show (⟨_⟩ : ByteArray) = ⟨_⟩; rw [← ho], hb⟩
  generalize (⟨(textL s).toArray⟩ : ByteArray) = tx at *
  obtain ⟨la, hla⟩ : ∃ la, la = chosenL s n20 true := ⟨_, rfl⟩
  obtain ⟨lb, hlb⟩ : ∃ lb, lb = chosenL s n20 false := ⟨_, rfl⟩
  have hlal : la.length ≤ s.length := by rw [hla]; exact chosenL_length _ _ _
  have hlbl : lb.length ≤ s.length := by rw [hlb]; exact chosenL_length _ _ _
  have HONLY : Hid (∀ U V W, TextsAt W U n20 → LabsAt W V s → Calls Tryd.prog 20 #[V, U] W fun e w' => ∃ a c, e = .returned (.slice a la.length c) ∧ w'.ownsRow W.heap.size 51 2 (.slice a la.length c) la.length (lbCells la) ∧ Below W.heap.size W w') := fun U V W hU hV => (only_any V U s n20 W hV (by omega) hU).mono fun e w' ⟨v', he, hr, hb⟩ => by
    rw [← hla] at hr
    obtain ⟨a, c, rfl⟩ := slice_of_row hr
    exact ⟨a, c, he, hr, hb⟩
  have HBUT : Hid (∀ U V W, TextsAt W U n20 → LabsAt W V s → Calls Tryd.prog 21 #[V, U] W fun e w' => ∃ a c, e = .returned (.slice a lb.length c) ∧ w'.ownsRow W.heap.size 51 2 (.slice a lb.length c) lb.length (lbCells lb) ∧ Below W.heap.size W w') := fun U V W hU hV => (but_any V U s n20 W hV (by omega) hU).mono fun e w' ⟨v', he, hr, hb⟩ => by
    rw [← hlb] at hr
    obtain ⟨a, c, rfl⟩ := slice_of_row hr
    exact ⟨a, c, he, hr, hb⟩
  have HRONLY : Hid (∀ U V W, TextsAt W U n20 → LabsAt W V s → Calls Tryd.prog 22 #[V, U] W fun e w' => ∃ a c, e = .returned (.slice a la.length c) ∧ LabsAt w' (.slice a la.length c) la ∧ Below W.heap.size W w') := fun U V W hU hV => (refOnly_any V U s n20 W hV (by omega) hU).mono fun e w' ⟨v', he, hr, hb⟩ => by
    rw [← hla] at hr
    obtain ⟨a, c, rfl⟩ := slice_of_row hr
    exact ⟨a, c, he, LabsAt.of_row hr, hb⟩
  have HRBUT : Hid (∀ U V W, TextsAt W U n20 → LabsAt W V s → Calls Tryd.prog 23 #[V, U] W fun e w' => ∃ a c, e = .returned (.slice a lb.length c) ∧ LabsAt w' (.slice a lb.length c) lb ∧ Below W.heap.size W w') := fun U V W hU hV => (refBut_any V U s n20 W hV (by omega) hU).mono fun e w' ⟨v', he, hr, hb⟩ => by
    rw [← hlb] at hr
    obtain ⟨a, c, rfl⟩ := slice_of_row hr
    exact ⟨a, c, he, LabsAt.of_row hr, hb⟩
  have HEQ : Hid (∀ l : List Lb, l.length ≤ 900 → ∀ V V' W, LabsAt W V l → LabsAt W V' l → Calls Tryd.prog 13 #[V, V'] W fun e w' => e = .returned (.bool true) ∧ Below W.heap.size W w') := fun l hl V V' W h1 h2 => (alike_any V V' l l W h1 h2 (by omega) (by omega)).mono fun e w' ⟨he, q, hq⟩ => ⟨by rw [he, eqL_self], by rw [hq]; exact below_drewN (Below.refl _ _) q⟩
  have HTX : Hid (∀ V V' W, TextsAt W V n20 → TextsAt W V' n20 → Calls Tryd.prog 24 #[V, V'] W fun e w' => e = .returned (.bool true) ∧ Below W.heap.size W w') := fun V V' W h1 h2 => (texts_any V V' n20 n20 W h1 h2).mono fun e w' ⟨he, q, hq⟩ => ⟨by rw [he, eqT_self], by rw [hq]; exact below_drewN (Below.refl _ _) q⟩
  have HSPA : Hid (∀ V base W, W.ownsRow base 51 2 V la.length (lbCells la) → base ≤ W.heap.size → Calls Tryd.prog 25 #[V] W fun e w' => e = .returned (.tuple #[]) ∧ Kept (fun k => V.ownBlock = some k) W w') := fun V base W h1 h2 => spoil_any base V la W h1 (by omega) h2
  have HSPB : Hid (∀ V base W, W.ownsRow base 51 2 V lb.length (lbCells lb) → base ≤ W.heap.size → Calls Tryd.prog 25 #[V] W fun e w' => e = .returned (.tuple #[]) ∧ Kept (fun k => V.ownBlock = some k) W w') := fun V base W h1 h2 => spoil_any base V lb W h1 (by omega) h2
  have HWK : Hid (∀ W, Below w.heap.size w W → Calls Tryd.prog 16 #[] W fun e w' => e = .returned (.bool true) ∧ Below w.heap.size w w') := fun W hW => (wakes_any W (hT.below hW)).mono fun e w' ⟨he, hb⟩ => ⟨he, hW.trans (hb.mono hW.size)⟩
  have HSTR : Hid (Strict s) := hstr
  have HN20S : Hid (∀ x ∈ n20, x.size ≤ maxLen) := hn20s
  clear hla hlb hT hstr hsh hs hn20s
  have hcase : (20 < ns.length ∧ Hid (n20.length = 20) ∧ ∃ bn on, an = some ⟨bn, on, none⟩ ∧ Hid (TextsAt w (.slice an 20 cn) n20) ∧ (20 : Int) ≤ (cn : Int)) ∨ (¬ 20 < ns.length ∧ n20 = ns ∧ Hid (TextsAt w (.slice an ns.length cn) n20)) := by
    rcases Nat.lt_or_ge 20 ns.length with h20 | h20
    · obtain ⟨bn, on, e, -⟩ := HN.out.one 0 (by omega)
      exact Or.inl ⟨h20, by show _ = _; rw [hn20]; simp; omega, bn, on, e, by rw [hn20]; exact HN.out.take 20 (by omega), by omega⟩
    · exact Or.inr ⟨by omega, by rw [hn20, List.take_of_length_le h20], by rw [hn20, List.take_of_length_le h20]; exact HN.out⟩
  clear HN hn20
  have HWITH : Hid (∀ n V W, LabsAt W V s → Calls Tryd.prog 26 #[V, .string n, .string val] W fun e w' => ∃ a1 c1, e = .returned (.slice a1 (withL s n val).length c1) ∧ w'.ownsRow W.heap.size 51 2 (.slice a1 (withL s n val).length c1) (withL s n val).length (lbCells (withL s n val)) ∧ Below W.heap.size W w') := fun n V W hV => (with_any V s n val W hV (by omega)).mono fun e w' ⟨v', he, hr, hb⟩ => by
    obtain ⟨a, c, rfl⟩ := slice_of_row hr
    exact ⟨a, c, he, hr, hb⟩
  have HRWITH : Hid (∀ n V W, n.size ≤ maxLen → LabsAt W V s → Calls Tryd.prog 29 #[V, .string n, .string val] W fun e w' => ∃ a1 c1, e = .returned (.slice a1 (withL s n val).length c1) ∧ LabsAt w' (.slice a1 (withL s n val).length c1) (withL s n val) ∧ Below W.heap.size W w') := fun n V W hn hV => (refWith_any V s n val W hV (by omega) hn).mono fun e w' ⟨v', he, hr, hb⟩ => by
    rw [← withL_ref HSTR.out] at hr
    obtain ⟨a, c, rfl⟩ := slice_of_row hr
    exact ⟨a, c, he, LabsAt.of_row hr, hb⟩
  have HWL : Hid (∀ n, (withL s n val).length ≤ 65) := fun n => by have := withL_length s HSTR.out n val; omega
  have HGET : Hid (∀ n V W, LabsAt W V s → Calls Tryd.prog 27 #[V, .string n] W fun e w' => e = .returned (.string (getL s n)) ∧ Below W.heap.size W w') := fun n V W hV => get_any V s n W hV (by omega)
  have HRGET : Hid (∀ n V W, LabsAt W V s → Calls Tryd.prog 28 #[V, .string n] W fun e w' => e = .returned (.string (getL s n)) ∧ w' = W) := fun n V W hV => refGet_any V s n W hV (by omega)
  have HSPX : Hid (∀ l : List Lb, l.length ≤ 65 → ∀ V base W, W.ownsRow base 51 2 V l.length (lbCells l) → base ≤ W.heap.size → Calls Tryd.prog 25 #[V] W fun e w' => e = .returned (.tuple #[]) ∧ Kept (fun k => V.ownBlock = some k) W w') := fun l hl V base W h1 h2 => spoil_any base V l W h1 (by omega) h2
  clear HSTR
  rcases hcase with ⟨h20, hl20, bn, on, rfl, HU, h20i⟩ | ⟨h20, rfl, HU⟩
  all_goals
    go_enter Tryd.func4, Tryd.ntmps4
    go_wp2_with (first
      | (go_at_call 17; refine hset.mono ?_; clear hset; rintro e w1 ⟨v1, rfl, hr1, hb1⟩; obtain ⟨sa, cs, rfl⟩ := slice_of_row hr1; have HL1 : Hid (LabsAt w1 (.slice sa s.length cs) s) := LabsAt.of_row hr1; have HB1 : Hid (Below w.heap.size w w1) := hb1; clear hr1 hb1)
      | (go_at_call 18; refine (HT1.out _ _ HL1.out).mono ?_; clear HT1; rintro e w2 ⟨rfl, hb2⟩; have HL2 : Hid (LabsAt w2 (.slice sa s.length cs) s) := HL1.out.below hb2; have HB2 : Hid (Below w.heap.size w w2) := HB1.out.trans (hb2.mono HB1.out.size); clear hb2 HL1 HB1)
      | (go_at_call 19; refine (HT2.out _ _ HL2.out).mono ?_; clear HT2; rintro e w3 ⟨rfl, hb3⟩; have HL3 : Hid (LabsAt w3 (.slice sa s.length cs) s) := HL2.out.below hb3; have HB3 : Hid (Below w.heap.size w w3) := HB2.out.trans (hb3.mono HB2.out.size); clear hb3 HL2 HB2)
      | (at_builtin; refine wpList_append_texts _ rfl _ _ rfl w3.heap.size (.slice (some ⟨w3.heap.size, 0, none⟩) 0 0) 0 [] rfl (row_texts_empty w3 _ (Nat.le_refl _)) _ n20 rfl (HU.out.below (HB3.out.alloc HB3.out.size _)) (by omega) (by simp) ?_; intro v4 w4 hr4 hg4 _; rw [Nat.zero_add, List.nil_append] at hr4; obtain ⟨ai, ci, hv4⟩ := slice_of_row hr4; subst hv4; have hb4 : Below w3.heap.size w3 w4 := ((Below.refl _ w3).alloc (Nat.le_refl _) _).grown hg4 (by simp) (fun j hj => by cases hj; exact Nat.le_refl _); have HL4 : Hid (LabsAt w4 (.slice sa s.length cs) s) := HL3.out.below hb4; have HI4 : Hid (TextsAt w4 (.slice ai n20.length ci) n20) := TextsAt.of_row hr4 HN20S.out; have HB4 : Hid (Below w.heap.size w w4) := HB3.out.trans (hb4.mono HB3.out.size); clear hr4 hg4 hb4 HL3 HB3)
      | (go_at_call 20; refine (HONLY.out _ _ _ HI4.out HL4.out).mono ?_; rintro e w5 ⟨aa, ca, rfl, hr5, hb5⟩; have HA5 : Hid (w5.ownsRow w4.heap.size 51 2 (.slice aa la.length ca) la.length (lbCells la)) := hr5; have HX5 : Hid (Below w4.heap.size w4 w5) := hb5; clear hr5 hb5)
      | (go_at_call 21; refine (HBUT.out _ _ _ (HI4.out.below HX5.out) (HL4.out.below HX5.out)).mono ?_; clear HBUT; rintro e w6 ⟨ab, cb, rfl, hr6, hb6⟩; have HA6 : Hid (w6.ownsRow w4.heap.size 51 2 (.slice aa la.length ca) la.length (lbCells la)) := row_below HA5.out hb6; have HC6 : Hid (w6.ownsRow w5.heap.size 51 2 (.slice ab lb.length cb) lb.length (lbCells lb)) := hr6; have HD : Hid (∀ k, (Value.slice aa la.length ca).ownBlock = some k → (Value.slice ab lb.length cb).ownBlock = some k → False) := (fun k h1 h2 => by have q1 := (HA5.out.lt k h1).2; have q2 := (HC6.out.lt k h2).1; omega); have HX6 : Hid (Below w4.heap.size w4 w6) := HX5.out.trans (hb6.mono HX5.out.size); have hsz45 := HX5.out.size; clear hr6 hb6 HA5 HX5)
      | (go_at_call 22; refine (HRONLY.out _ _ _ (HU.out.below (HB4.out.trans (HX6.out.mono HB4.out.size))) (HL4.out.below HX6.out)).mono ?_; rintro e w7 ⟨ra, rc, rfl, hl7, hb7⟩; have HR7 : Hid (LabsAt w7 (.slice ra la.length rc) la) := hl7; have HA7 : Hid (w7.ownsRow w4.heap.size 51 2 (.slice aa la.length ca) la.length (lbCells la)) := row_below HA6.out hb7; have HC7 : Hid (w7.ownsRow w5.heap.size 51 2 (.slice ab lb.length cb) lb.length (lbCells lb)) := row_below HC6.out hb7; have HX7 : Hid (Below w4.heap.size w4 w7) := HX6.out.trans (hb7.mono HX6.out.size); clear hl7 hb7 HA6 HC6 HX6)
      | (go_at_call 13; refine (HEQ.out la (by omega) _ _ _ (LabsAt.of_row HA7.out) HR7.out).mono ?_; rintro e w8 ⟨rfl, hb8⟩; have HA8 : Hid (w8.ownsRow w4.heap.size 51 2 (.slice aa la.length ca) la.length (lbCells la)) := row_below HA7.out hb8; have HC8 : Hid (w8.ownsRow w5.heap.size 51 2 (.slice ab lb.length cb) lb.length (lbCells lb)) := row_below HC7.out hb8; have HX8 : Hid (Below w4.heap.size w4 w8) := HX7.out.trans (hb8.mono HX7.out.size); clear hb8 HA7 HC7 HX7 HR7)
      | (go_at_call 23; refine (HRBUT.out _ _ _ (HU.out.below (HB4.out.trans (HX8.out.mono HB4.out.size))) (HL4.out.below HX8.out)).mono ?_; clear HRBUT; rintro e w9 ⟨rb, rd, rfl, hl9, hb9⟩; have HR9 : Hid (LabsAt w9 (.slice rb lb.length rd) lb) := hl9; have HA9 : Hid (w9.ownsRow w4.heap.size 51 2 (.slice aa la.length ca) la.length (lbCells la)) := row_below HA8.out hb9; have HC9 : Hid (w9.ownsRow w5.heap.size 51 2 (.slice ab lb.length cb) lb.length (lbCells lb)) := row_below HC8.out hb9; have HX9 : Hid (Below w4.heap.size w4 w9) := HX8.out.trans (hb9.mono HX8.out.size); clear hl9 hb9 HA8 HC8 HX8)
      | (go_at_call 13; refine (HEQ.out lb (by omega) _ _ _ (LabsAt.of_row HC9.out) HR9.out).mono ?_; rintro e w10 ⟨rfl, hb10⟩; have HA10 : Hid (w10.ownsRow w4.heap.size 51 2 (.slice aa la.length ca) la.length (lbCells la)) := row_below HA9.out hb10; have HC10 : Hid (w10.ownsRow w5.heap.size 51 2 (.slice ab lb.length cb) lb.length (lbCells lb)) := row_below HC9.out hb10; have HX10 : Hid (Below w4.heap.size w4 w10) := HX9.out.trans (hb10.mono HX9.out.size); clear hb10 HA9 HC9 HX9 HR9)
      | (go_at_call 24; refine (HTX.out _ _ _ (HI4.out.below HX10.out) (HU.out.below (HB4.out.trans (HX10.out.mono HB4.out.size)))).mono ?_; clear HTX; rintro e w11 ⟨rfl, hb11⟩; have HA11 : Hid (w11.ownsRow w4.heap.size 51 2 (.slice aa la.length ca) la.length (lbCells la)) := row_below HA10.out hb11; have HC11 : Hid (w11.ownsRow w5.heap.size 51 2 (.slice ab lb.length cb) lb.length (lbCells lb)) := row_below HC10.out hb11; have HX11 : Hid (Below w4.heap.size w4 w11) := HX10.out.trans (hb11.mono HX10.out.size); clear hb11 HA10 HC10 HX10)
      | (go_at_call 25; refine (HSPA.out _ _ _ HA11.out HX11.out.size).mono ?_; clear HSPA; rintro e w12 ⟨rfl, hk12⟩; have HC12 : Hid (w12.ownsRow w5.heap.size 51 2 (.slice ab lb.length cb) lb.length (lbCells lb)) := hk12.ownsRow HC11.out (fun k h1 h2 => HD.out k h2 h1); have HX12 : Hid (Below w4.heap.size w4 w12) := HX11.out.trans (hk12.toBelow HX11.out.size (fun i hi => (HA11.out.lt i hi).1)); clear hk12 HA11 HC11 HX11 HD)
      | (go_at_call 25; refine (HSPB.out _ _ _ (row_mono HC12.out hsz45) HX12.out.size).mono ?_; clear HSPB; rintro e w13 ⟨rfl, hk13⟩; have HX13 : Hid (Below w4.heap.size w4 w13) := HX12.out.trans (hk13.toBelow HX12.out.size (fun i hi => ((row_mono HC12.out hsz45).lt i hi).1)); clear hk13 HC12 HX12)
      | (at_builtin; refine wpList_append_labs _ rfl _ _ rfl w13.heap.size (.slice (some ⟨w13.heap.size, 0, none⟩) 0 0) 0 [] rfl (row_empty w13 _ (Nat.le_refl _)) _ s rfl (HL4.out.below (HX13.out.alloc HX13.out.size _)) (by omega) (by simp) ?_; intro v14 w14 hr14 hg14 _; rw [Nat.zero_add, List.nil_append] at hr14; obtain ⟨aw, cw, hv14⟩ := slice_of_row hr14; subst hv14; have HW14 : Hid (LabsAt w14 (.slice aw s.length cw) s) := LabsAt.of_row hr14; have hx14 : Below w4.heap.size w4 w14 := (HX13.out.alloc HX13.out.size _).grown hg14 (by have := HX13.out.size; simp; omega) (fun j hj => by cases hj; exact HX13.out.size); have HS14 : Hid (LabsAt w14 (.slice sa s.length cs) s) := HL4.out.below hx14; have HB14 : Hid (Below w.heap.size w w14) := HB4.out.trans (hx14.mono HB4.out.size); clear hr14 hg14 hx14 HX13 HL4 HI4 HB4 hsz45))
    go_loopw [12] (fun i wr => ∃ k : Nat, k ≤ n20.length ∧ i = .int .i64 k ∧ Hid (Below w14.heap.size w14 wr)) (fun i _ => n20.length - (intOf i).toNat)
    case atStart => exact ⟨0, Nat.zero_le _, rfl, Below.refl _ _⟩
    case round =>
      obtain ⟨k, hk, rfl, hbel⟩ := hrel
      by_cases hlt : k < n20.length
      · obtain ⟨b, o, e, hxs, hone⟩ := HU.out.at k hlt
        first | (obtain ⟨e1, e2, -⟩ := Addr.mk.inj (Option.some.inj e); have e1 := e1.symm; have e2 := e2.symm; subst e1 e2; clear e) | subst e
        obtain ⟨x, hx⟩ : ∃ x, x = n20[k] := ⟨_, rfl⟩
        rw [← hx] at hone hxs
        clear hx
        have HO : Hid (∀ W, Below w14.heap.size w14 W → W.cell? ⟨b, o + k, none⟩ = some (.string x)) := fun W hW => hone W (HB14.out.trans (hW.mono HB14.out.size))
        clear hone
        have g0 := HO.out wr hbel.out
        have hkl : (k : Int) < (n20.length : Int) := by omega
        first | (have hkl2 : (k : Int) < 20 := by have := hl20.out; omega) | skip
        have hwi := HWITH.out x _ _ (HS14.out.below hbel.out)
        have HRWI := fun W (hW : Below w14.heap.size w14 W) => HRWITH.out x _ _ hxs (HS14.out.below hW)
        have hwl := HWL.out x
        have HRWI : Hid _ := HRWI
        generalize withL s x val = l2 at *
        have HGE : Hid _ := fun W (hW : Below w14.heap.size w14 W) => HGET.out x _ _ (HS14.out.below hW)
        have HRGE : Hid _ := fun W (hW : Below w14.heap.size w14 W) => HRGET.out x _ _ (HS14.out.below hW)
        generalize getL s x = gx at *
        go_wp2_with (first | (go_at_call 26; refine hwi.mono ?_; clear hwi; rintro e w15 ⟨ax, cx, rfl, hr15, hb15⟩; have HX15 : Hid (w15.ownsRow wr.heap.size 51 2 (.slice ax l2.length cx) l2.length (lbCells l2)) := hr15; have HB15 : Hid (Below w14.heap.size w14 w15) := hbel.out.trans (hb15.mono hbel.out.size); have hs15 := hb15.size; clear hr15 hb15))
        have d0 := HO.out w15 HB15.out
        have HX15d : Hid (w15.drew.ownsRow wr.heap.size 51 2 (.slice ax l2.length cx) l2.length (lbCells l2)) := World.ownsRow.drew HX15.out
        have HB15d : Hid (Below w14.heap.size w14 w15.drew) := HB15.out.drew
        go_region_held3 (fun w' => w'.cell? ⟨b, o + k, none⟩ = some (.string x))
          (first | exact d0 | exact f0 | exact f1 | exact f2)
          (first
            | (go_at_call 27; refine (HGE.out _ HB15d.out).mono ?_; clear HGE; rintro e w16 ⟨rfl, hb16⟩; have HX16 : Hid (w16.ownsRow wr.heap.size 51 2 (.slice ax l2.length cx) l2.length (lbCells l2)) := row_below HX15d.out hb16; have HB16 : Hid (Below w14.heap.size w14 w16) := HB15d.out.trans (hb16.mono HB15d.out.size); have f0 := HO.out w16 HB16.out; clear hb16)
            | (go_at_call 28; refine (HRGE.out _ HB16.out).mono ?_; clear HRGE; rintro e w17 ⟨rfl, hw17⟩; have hw17 := hw17.symm; subst hw17)
            | (go_at_call 29; refine (HRWI.out _ HB16.out).mono ?_; clear HRWI; rintro e w18 ⟨ay, cy, rfl, hl18, hb18⟩; have HL18 : Hid (LabsAt w18 (.slice ay l2.length cy) l2) := hl18; have HX18 : Hid (w18.ownsRow wr.heap.size 51 2 (.slice ax l2.length cx) l2.length (lbCells l2)) := row_below HX16.out hb18; have HB18 : Hid (Below w14.heap.size w14 w18) := HB16.out.trans (hb18.mono HB16.out.size); have f1 := HO.out w18 HB18.out; clear hb18 hl18)
            | (go_at_call 13; refine (HEQ.out l2 (by omega) _ _ _ (LabsAt.of_row HX18.out) HL18.out).mono ?_; rintro e w19 ⟨rfl, hb19⟩; have HX19 : Hid (w19.ownsRow wr.heap.size 51 2 (.slice ax l2.length cx) l2.length (lbCells l2)) := row_below HX18.out hb19; have HB19 : Hid (Below w14.heap.size w14 w19) := HB18.out.trans (hb19.mono HB18.out.size); have f2 := HO.out w19 HB19.out; have hs19 := hb19.size; clear hb19))
        go_wp2_with (first
          | (go_at_call 25; refine (HSPX.out l2 hwl _ _ _ (row_mono HX19.out hbel.out.size) HB19.out.size).mono ?_; clear HSPX; rintro e w20 ⟨rfl, hk20⟩; have HB20 : Hid (Below w14.heap.size w14 w20) := HB19.out.trans (hk20.toBelow HB19.out.size (fun i hi => Nat.le_trans hbel.out.size (HX19.out.lt i hi).1)); clear hk20)
          | (go_at_call 13; refine (HEQ.out s (by omega) _ _ _ (HS14.out.below HB20.out) (HW14.out.below HB20.out)).mono ?_; clear HEQ; rintro e w21 ⟨rfl, hb21⟩; have HB21 : Hid (Below w14.heap.size w14 w21) := HB20.out.trans (hb21.mono HB20.out.size)))
        go_roundw
        case rel => exact ⟨k + 1, by omega, by go_num, HB21⟩
        case measure => simp [intOf]; omega
      · have hkl : ¬ (k : Int) < (n20.length : Int) := by omega
        first | (have hkl2 : ¬ (k : Int) < 20 := by have := hl20.out; omega) | skip
        have hBw : Below w.heap.size w wr := HB14.out.trans (hbel.out.mono HB14.out.size)
        have honly := HONLY.out _ _ _ (HU.out.below hBw) (HS14.out.below hbel.out)
        have HRO : Hid _ := fun W (hW : Below wr.heap.size wr W) => HRONLY.out _ _ _ (HU.out.below (hBw.trans (hW.mono hBw.size))) (HS14.out.below (hbel.out.trans (hW.mono hbel.out.size)))
        have HBW : Hid (Below w.heap.size w wr) := hBw
        clear hBw HGET HRGET HWITH HRWITH HWL HSPX HONLY HRONLY HS14 HW14 hbel HU
        go_wp2_with (first
          | (go_at_call 20; refine honly.mono ?_; clear honly; rintro e w22 ⟨ay, cy, rfl, hr22, hb22⟩; have HX22 : Hid (LabsAt w22 (.slice ay la.length cy) la) := LabsAt.of_row hr22; have HB22 : Hid (Below wr.heap.size wr w22) := hb22; clear hr22 hb22)
          | (go_at_call 22; refine (HRO.out _ HB22.out).mono ?_; clear HRO; rintro e w23 ⟨az, cz, rfl, hl23, hb23⟩; have HX23 : Hid (LabsAt w23 (.slice ay la.length cy) la) := HX22.out.below hb23; have HY23 : Hid (LabsAt w23 (.slice az la.length cz) la) := hl23; have HB23 : Hid (Below w.heap.size w w23) := HBW.out.trans ((HB22.out.trans (hb23.mono HB22.out.size)).mono HBW.out.size); clear hl23 hb23)
          | (go_at_call 13; refine (HEQ.out la (by omega) _ _ _ HX23.out HY23.out).mono ?_; clear HEQ; rintro e w24 ⟨rfl, hb24⟩; have HB24 : Hid (Below w.heap.size w w24) := HB23.out.trans (hb24.mono HB23.out.size); clear hb24)
          | (go_at_call 16; refine (HWK.out _ HB24.out).mono ?_; rintro e w25 ⟨rfl, hb25⟩))
        go_ret
        exact ⟨rfl, hb25⟩

end Go.Proofs.YtobkomfeojhhbaaDoor
