/- The document's reader: the change of the step. -/
import Derived.Test.YtkmclgbiedbfpaaDoorVk
namespace Go.Proofs.YtkmclgbiedbfpaaDoor
open Go.RowKit Go.Maps

def Ones (o : Option (List Bool)) (k : Nat) (ok : Option (List Bool)) : Prop := (k = 0 ∧ ok = o) ∨ ∃ r t, o = some r ∧ r = List.replicate k true ++ t ∧ ok = some t
theorem Ones.next {o ok : Option (List Bool)} {k : Nat} (h : Ones o k ok) (h1 : gv 1 ok = 1) : Ones o (k + 1) (gr 1 ok) := by
  cases ok with
  | none => rw [gv_none] at h1; cases h1
  | some t =>
    obtain ⟨u, rfl⟩ := bit_one h1
    rw [gr1_cons]
    rcases h with ⟨rfl, rfl⟩ | ⟨r, t, rfl, rfl, e⟩
    · exact Or.inr ⟨_, u, rfl, rfl, rfl⟩
    · cases e
      exact Or.inr ⟨_, u, rfl, by simp [List.replicate_succ'], rfl⟩
/-- How it ends behind k ones and another bit, or none. -/
theorem Ones.last {o ok : Option (List Bool)} {k : Nat} (h : Ones o k ok) (h1 : gv 1 ok ≠ 1) (hk : k < 4) :
    (gr 1 ok = none ∧ dr o = none ∧ ∀ r, o = some r → takeChange r = none) ∨ ∃ r u, o = some r ∧ gr 1 ok = some u ∧ takeChange r = chK k u := by
  cases ok with
  | none =>
    rcases h with ⟨rfl, rfl⟩ | ⟨r, t, rfl, rfl, e⟩
    · exact Or.inl ⟨rfl, rfl, fun r h => by cases h⟩
    · cases e
  | some t =>
    have key : ∃ r, o = some r ∧ r = List.replicate k true ++ t := by
      rcases h with ⟨rfl, h2⟩ | ⟨r, t', h2, h3, e⟩
      · exact ⟨t, h2.symm, rfl⟩
      · cases e
        exact ⟨r, h2, h3⟩
    obtain ⟨r, rfl, hr⟩ := key
    have hc := change_ones r t k hr hk
    rcases bit_not h1 with rfl | ⟨u, rfl⟩
    · refine Or.inl ⟨gr1_nil, ?_, fun r' e => ?_⟩
      · show (takeChange r).map _ = _
        rw [hc.2 rfl]
        rfl
      · cases e
        exact hc.2 rfl
    · exact Or.inr ⟨r, u, rfl, gr1_cons _ _, hc.1 u rfl⟩
theorem sg_sub (g b n : Nat) (hn : n ≤ 4096) (hg : g < n) (hb : b < 2048) : sg (UInt64.ofNat ((g + (18446744073709551616 - b)) % 18446744073709551616)) = (g : Int) - (b : Int) := by
  have e : (UInt64.ofNat ((g + (18446744073709551616 - b)) % 18446744073709551616)).toNat = (g + (18446744073709551616 - b)) % 18446744073709551616 := by rw [UInt64.toNat_ofNat']; omega
  unfold sg
  rw [e]
  split <;> omega
theorem sg_word (g : Nat) (hg : g < 18446744073709551616) : IntKind.i64.wrap (g : Int) = sg (UInt64.ofNat g) := by
  have e : (UInt64.ofNat g).toNat = g := by rw [UInt64.toNat_ofNat']; omega
  rw [IntWalk.i64_left]
  unfold wrap64 sg
  rw [e]
  split <;> omega
/-- what dod tells, and what it leaves -/
def DodR (o : Option (List Bool)) (z : Int) (o' : Option (List Bool)) : Prop := (-9223372036854775808 ≤ z ∧ z ≤ 9223372036854775807) ∧ o' = dr o ∧ ∀ r c r', o = some r → takeChange r = some (c, r') → z = sg (UInt64.ofNat c)
theorem dod_zero {o ok : Option (List Bool)} (h : Ones o 0 ok) (h1 : gv 1 ok ≠ 1) : DodR o 0 (gr 1 ok) := by
  refine ⟨by omega, ?_, fun r c r' e hc => ?_⟩
  · rcases h.last h1 (by decide) with ⟨a, b, _⟩ | ⟨r, u, rfl, a, b⟩
    · rw [a, b]
    · rw [a]
      show _ = (takeChange r).map _
      rw [b]
      rfl
  · rcases h.last h1 (by decide) with ⟨_, _, b⟩ | ⟨r2, u, e2, _, b⟩
    · rw [b r e] at hc
      cases hc
    · rw [e] at e2
      cases e2
      rw [b] at hc
      cases hc
      rfl
theorem dod_some {o ok : Option (List Bool)} {k n b : Nat} (h : Ones o k ok) (h1 : gv 1 ok ≠ 1) (hk : k < 4) (hm : ∀ u, chK k u = takeC n b u) (hn : n ≤ 12) (hb : b < 2048) :
    DodR o ((gv n (gr 1 ok) : Int) - (b : Int)) (gr n (gr 1 ok)) := by
  have hlt := gv_lt n (gr 1 ok)
  have hp : 2 ^ n ≤ 2 ^ 12 := Nat.pow_le_pow_right (by decide) hn
  have h12 : (2 : Nat) ^ 12 = 4096 := rfl
  refine ⟨by omega, ?_, fun r c r' e hc => ?_⟩
  · rcases h.last h1 hk with ⟨a, e, _⟩ | ⟨r, u, rfl, a, e⟩
    · rw [a, e]
      rfl
    · rw [a]
      show _ = (takeChange r).map _
      rw [e, hm, takeC_gr]
      cases gr n (some u) <;> rfl
  · rcases h.last h1 hk with ⟨_, _, e2⟩ | ⟨r2, u, e2, a, e3⟩
    · rw [e2 r e] at hc
      cases hc
    · rw [e] at e2
      cases e2
      rw [e3, hm, takeC_gr] at hc
      rw [a] at hlt ⊢
      cases h9 : gr n (some u) with
      | none => rw [h9] at hc; cases hc
      | some r9 =>
        rw [h9] at hc
        cases hc
        rw [sg_sub _ _ (2 ^ n) (by omega) hlt hb]
theorem dod_four {o ok : Option (List Bool)} (h : Ones o 4 ok) : DodR o (sg (UInt64.ofNat (gv 64 ok))) (gr 64 ok) := by
  rcases h with ⟨h, _⟩ | ⟨r, t, rfl, hr, rfl⟩
  · cases h
  · have hc := change_four r t hr
    refine ⟨sg_in _, ?_, fun r' c r'' e hc' => ?_⟩
    · show _ = (takeChange r).map _
      rw [hc, takeN_gr]
      cases gr 64 (some t) <;> rfl
    · cases e
      rw [hc, takeN_gr] at hc'
      cases h9 : gr 64 (some t) with
      | none => rw [h9] at hc'; cases hc'
      | some r9 =>
        rw [h9] at hc'
        cases hc'
        rfl

/-- what dod tells -/
def zd : Option (List Bool) → Int
  | none => 0
  | some (true :: true :: true :: true :: t) => sg (UInt64.ofNat (gv 64 (some t)))
  | some (true :: true :: true :: t) => (gv 12 (gr 1 (some t)) : Int) - 2047
  | some (true :: true :: t) => (gv 9 (gr 1 (some t)) : Int) - 255
  | some (true :: t) => (gv 7 (gr 1 (some t)) : Int) - 63
  | some _ => 0
theorem Ones.shape {o ok : Option (List Bool)} {k : Nat} (h : Ones o k ok) : (k = 0 ∧ ok = o) ∨ ∃ t, ok = some t ∧ o = some (List.replicate k true ++ t) := by
  rcases h with h | ⟨r, t, h1, h2, h3⟩
  · exact Or.inl h
  · exact Or.inr ⟨t, h3, by rw [h1, h2]⟩
theorem zd_last {o ok : Option (List Bool)} {k : Nat} (h : Ones o k ok) (h1 : gv 1 ok ≠ 1) (hk : k < 4) : zd o = match k with | 0 => 0 | 1 => (gv 7 (gr 1 ok) : Int) - 63 | 2 => (gv 9 (gr 1 ok) : Int) - 255 | _ => (gv 12 (gr 1 ok) : Int) - 2047 := by
  have key : (k = 0 ∧ o = none) ∨ ∃ t, ok = some t ∧ o = some (List.replicate k true ++ t) := by
    rcases h.shape with ⟨rfl, rfl⟩ | h9
    · cases ok with
      | none => exact Or.inl ⟨rfl, rfl⟩
      | some t => exact Or.inr ⟨t, rfl, rfl⟩
    · exact Or.inr h9
  rcases key with ⟨rfl, rfl⟩ | ⟨t, rfl, rfl⟩
  · rfl
  · rcases bit_not h1 with rfl | ⟨u, rfl⟩
    · match k, hk with
      | 0, _ => rfl
      | 1, _ => rfl
      | 2, _ => rfl
      | 3, _ => rfl
    · match k, hk with
      | 0, _ => rfl
      | 1, _ => rfl
      | 2, _ => rfl
      | 3, _ => rfl
theorem zd_four {o ok : Option (List Bool)} (h : Ones o 4 ok) : zd o = sg (UInt64.ofNat (gv 64 ok)) := by
  rcases h.shape with ⟨h, _⟩ | ⟨t, rfl, rfl⟩
  · cases h
  · rfl
theorem zd_at {o : Option (List Bool)} {z : Int} {o' : Option (List Bool)} (h : DodR o z o') (hz : zd o = z) : DodR o (zd o) (dr o) := by
  rw [hz, ← h.2.1]
  exact h
theorem zd_spec (o : Option (List Bool)) : DodR o (zd o) (dr o) := by
  cases o with
  | none => exact zd_at (dod_zero (Or.inl ⟨rfl, rfl⟩) (by rw [gv_none]; decide)) rfl
  | some r =>
    have stop : ∀ k t, k < 4 → r = List.replicate k true ++ t → gv 1 (some t) ≠ 1 → DodR (some r) (zd (some r)) (dr (some r)) := fun k t hk hr h1 => by
      have ho : Ones (some r) k (some t) := Or.inr ⟨r, t, rfl, hr, rfl⟩
      have hz := zd_last ho h1 hk
      match k, hk with
      | 0, _ => exact zd_at (dod_zero ho h1) hz
      | 1, _ => exact zd_at (dod_some (k := 1) (n := 7) (b := 63) ho h1 (by decide) (fun _ => rfl) (by decide) (by decide)) hz
      | 2, _ => exact zd_at (dod_some (k := 2) (n := 9) (b := 255) ho h1 (by decide) (fun _ => rfl) (by decide) (by decide)) hz
      | 3, _ => exact zd_at (dod_some (k := 3) (n := 12) (b := 2047) ho h1 (by decide) (fun _ => rfl) (by decide) (by decide)) hz
    by_cases h0 : gv 1 (some r) = 1
    · obtain ⟨t1, rfl⟩ := bit_one h0
      by_cases h1 : gv 1 (some t1) = 1
      · obtain ⟨t2, rfl⟩ := bit_one h1
        by_cases h2 : gv 1 (some t2) = 1
        · obtain ⟨t3, rfl⟩ := bit_one h2
          by_cases h3 : gv 1 (some t3) = 1
          · obtain ⟨t4, rfl⟩ := bit_one h3
            have ho : Ones (some (true :: true :: true :: true :: t4)) 4 (some t4) := Or.inr ⟨_, t4, rfl, rfl, rfl⟩
            exact zd_at (dod_four ho) (zd_four ho)
          · exact stop 3 t3 (by decide) rfl h3
        · exact stop 2 t2 (by decide) rfl h2
      · exact stop 1 t1 (by decide) rfl h1
    · exact stop 0 r (by decide) rfl h0

set_option maxRecDepth 100000 in
set_option maxHeartbeats 4000000 in
theorem rdodR_any (U : Nat) (V : Value) (bs : List UInt8) (o : Option (List Bool)) (w : World) (h : RdO w U V bs o) (hV : ∀ W, Kept (fun k => k = U) w W → BytesAt W V bs) (hl : bs.length ≤ 100000) :
    Calls Tryd.prog 42 #[.pointer (some ⟨U, 0, none⟩)] w fun e w' => e = .returned (.int .i64 (zd o)) ∧ RdO w' U V bs (dr o) ∧ Kept (fun k => k = U) w w' := by
  have HG : Hid (∀ W o' (n : Nat), RdO W U V bs o' → Kept (fun k => k = U) w W → n ≤ 64 → Calls Tryd.prog 40 #[.pointer (some ⟨U, 0, none⟩), .int .i64 n] W fun e w' => e = .returned (.int .u64 (gv n o')) ∧ RdO w' U V bs (gr n o') ∧ Kept (fun k => k = U) w w') := fun W o' n h1 h2 h3 =>
    (rget_any U V bs o' n W h1 (fun W' hk => hV W' (h2.trans hk (fun _ _ h => h))) h3 hl).mono (fun e w' h9 => ⟨h9.1, h9.2.1, h2.trans h9.2.2 (fun _ _ h => h)⟩)
  have HR : Hid (RdO w U V bs o) := h
  clear h hV
  go_enter Tryd.func42, Tryd.ntmps42
  go_wp2
  go_loopw [3] (fun i wr => ∃ (k : Nat) (ok : Option (List Bool)), k ≤ 4 ∧ i = .int .i64 k ∧ Hid (Ones o k ok ∧ RdO wr U V bs ok ∧ Kept (fun k => k = U) w wr)) (fun i _ => 4 - (intOf i).toNat)
  case atStart => exact ⟨0, o, by omega, rfl, Or.inl ⟨rfl, rfl⟩, HR.out, Kept.refl _ _⟩
  case round =>
    obtain ⟨k, ok, hk, rfl, hI⟩ := hrel
    clear HR
    by_cases h4 : k = 4
    · subst h4
      have hg := HG.out wr ok 64 hI.out.2.1 hI.out.2.2 (by decide)
      have HW : Hid (IntKind.i64.wrap (gv 64 ok : Int) = sg (UInt64.ofNat (gv 64 ok))) := sg_word _ (gv_lt 64 ok)
      have HO : Hid (Ones o 4 ok) := hI.out.1
      clear hI HG
      have hw := HW.out
      have hw2 : wrap64 (gv 64 ok : Int) = sg (UInt64.ofNat (gv 64 ok)) := by rw [← IntWalk.i64_left]; exact hw
      go_wp2_with (go_at_call 40; refine hg.mono ?_; clear hg; rintro e w1 ⟨rfl, hw1, hb1⟩)
      go_ret
      have h9 := dod_four HO.out
      rw [zd_four HO.out, ← h9.2.1]
      exact ⟨rfl, hw1, hb1⟩
    · have hg := HG.out wr ok 1 hI.out.2.1 hI.out.2.2 (by decide)
      have hk4 : (k : Int) < 4 := by omega
      have HO : Hid (Ones o k ok) := hI.out.1
      clear hI
      by_cases h1 : gv 1 ok = 1
      · have HN : Hid (Ones o (k + 1) (gr 1 ok)) := HO.out.next h1
        rw [h1] at hg
        clear h1 HG HO
        go_wp2_with (go_at_call 40; refine hg.mono ?_; clear hg; rintro e w1 ⟨rfl, hw1, hb1⟩)
        go_roundw
        case rel => exact ⟨k + 1, _, by omega, by go_num, HN.out, hw1, hb1⟩
        case measure => simp [intOf]; omega
      · have h1i : ((gv 1 ok : Int) == 1) = false := by simp; omega
        have HG2 : Hid (∀ W (n : Nat), RdO W U V bs (gr 1 ok) → Kept (fun k => k = U) w W → n ≤ 64 → Calls Tryd.prog 40 #[.pointer (some ⟨U, 0, none⟩), .int .i64 n] W fun e w' => e = .returned (.int .u64 (gv n (gr 1 ok))) ∧ RdO w' U V bs (gr n (gr 1 ok)) ∧ Kept (fun k => k = U) w w') := fun W n => HG.out W _ n
        have hb7 := gv_lt 7 (gr 1 ok)
        have hb9 := gv_lt 9 (gr 1 ok)
        have hb12 := gv_lt 12 (gr 1 ok)
        have HN : Hid (gv 1 ok ≠ 1) := h1
        clear h1 HG
        have hkk : k = 0 ∨ k = 1 ∨ k = 2 ∨ k = 3 := by omega
        rcases hkk with rfl | rfl | rfl | rfl
        · go_wp2_with (go_at_call 40; refine hg.mono ?_; clear hg; rintro e w1 ⟨rfl, hw1, hb1⟩)
          go_ret
          have h9 := dod_zero HO.out HN.out
          rw [zd_last HO.out HN.out (by decide), ← h9.2.1]
          exact ⟨rfl, hw1, hb1⟩
        · go_wp2_with (first
            | (go_at_call 40; refine hg.mono ?_; clear hg; rintro e w1 ⟨rfl, hw1, hb1⟩; have hg2 := HG2.out w1 7 hw1 hb1 (by decide); clear hw1 hb1)
            | (go_at_call 40; refine hg2.mono ?_; clear hg2; rintro e w2 ⟨rfl, hw2, hb2⟩))
          go_ret
          have h9 := dod_some (k := 1) (n := 7) (b := 63) HO.out HN.out (by decide) (fun _ => rfl) (by decide) (by decide)
          rw [zd_last HO.out HN.out (by decide), ← h9.2.1]
          exact ⟨rfl, hw2, hb2⟩
        · go_wp2_with (first
            | (go_at_call 40; refine hg.mono ?_; clear hg; rintro e w1 ⟨rfl, hw1, hb1⟩; have hg2 := HG2.out w1 9 hw1 hb1 (by decide); clear hw1 hb1)
            | (go_at_call 40; refine hg2.mono ?_; clear hg2; rintro e w2 ⟨rfl, hw2, hb2⟩))
          go_ret
          have h9 := dod_some (k := 2) (n := 9) (b := 255) HO.out HN.out (by decide) (fun _ => rfl) (by decide) (by decide)
          rw [zd_last HO.out HN.out (by decide), ← h9.2.1]
          exact ⟨rfl, hw2, hb2⟩
        · go_wp2_with (first
            | (go_at_call 40; refine hg.mono ?_; clear hg; rintro e w1 ⟨rfl, hw1, hb1⟩; have hg2 := HG2.out w1 12 hw1 hb1 (by decide); clear hw1 hb1)
            | (go_at_call 40; refine hg2.mono ?_; clear hg2; rintro e w2 ⟨rfl, hw2, hb2⟩))
          go_ret
          have h9 := dod_some (k := 3) (n := 12) (b := 2047) HO.out HN.out (by decide) (fun _ => rfl) (by decide) (by decide)
          rw [zd_last HO.out HN.out (by decide), ← h9.2.1]
          exact ⟨rfl, hw2, hb2⟩

end Go.Proofs.YtkmclgbiedbfpaaDoor
