/- takeChange, takeTime. -/
import Derived.Test.YtkmclgbiedbfpaaDoorKa
namespace Go.Proofs.YtkmclgbiedbfpaaDoor
open Go.RowKit Go.Maps Go.Shelf

theorem take_some {w : World} {U : Nat} {v : Value} {ys : List UInt8} {p : Nat} {s : An} {width x : Nat} {r : List Bool} (h : Rd w U v ys p s) (hw : width ≤ 64) (ht : takeN width ((ub ys).drop p) = some (x, r)) :
    Calls Tryd.prog 53 #[.pointer (some ⟨U, 0, none⟩), .int .i64 width] w fun e w' => e = .returned (.tuple #[.int .u64 x, .bool true]) ∧ Rd w' U v ys (p + width) s ∧ Kept (fun k => k = U) w w' ∧ (ub ys).drop (p + width) = r ∧ x < 2 ^ width := by
  unfold takeN at ht
  split at ht
  · rename_i hl
    rw [List.length_drop, ub_length] at hl
    have hle := h.le
    simp only [Option.some.injEq, Prod.mk.injEq] at ht
    refine (take_ok w U v ys p s width h hw (by omega)).mono (fun e w' h9 => ?_)
    rw [ht.1] at h9
    have hlt := vb_lt (((ub ys).drop p).take width)
    rw [ht.1, List.length_take, List.length_drop, ub_length, show min width (8 * ys.length - p) = width by omega] at hlt
    exact ⟨h9.1, h9.2.1, h9.2.2, by rw [← ht.2, List.drop_drop], hlt⟩
  · cases ht
theorem take_none {w : World} {U : Nat} {v : Value} {ys : List UInt8} {p : Nat} {s : An} {width : Nat} (h : Rd w U v ys p s) (hw : width ≤ 64) (ht : takeN width ((ub ys).drop p) = none) :
    Calls Tryd.prog 53 #[.pointer (some ⟨U, 0, none⟩), .int .i64 width] w fun e w' => e = .returned (.tuple #[.int .u64 0, .bool false]) ∧ Rd w' U v ys p s ∧ Kept (fun k => k = U) w w' := by
  unfold takeN at ht
  split at ht
  · cases ht
  · rename_i hl
    rw [List.length_drop, ub_length] at hl
    have hle := h.le
    refine (take_no w U v ys p s width h hw (by omega)).mono (fun e w' h9 => ?_)
    obtain ⟨h1, k, rfl⟩ := h9
    have hk : Kept (fun k => k = U) w (w.drewN k) := (Kept.refl _ w).drewN k
    exact ⟨h1, h.kept hk h.un h.le, hk⟩
theorem takeN_one (b : Bool) (t : List Bool) : takeN 1 (b :: t) = some (b.toNat, t) := by
  unfold takeN
  rw [if_pos (by simp)]
  simp [vb]
theorem takeN_nil : takeN 1 [] = none := by simp [takeN]
def tcFrom : Nat → List Bool → Option (Nat × List Bool)
  | 0, [] => none
  | 0, false :: r => some (0, r)
  | 0, true :: r => tcFrom 1 r
  | 1, [] => none
  | 1, false :: r => takeC 7 63 r
  | 1, true :: r => tcFrom 2 r
  | 2, [] => none
  | 2, false :: r => takeC 9 255 r
  | 2, true :: r => tcFrom 3 r
  | 3, [] => none
  | 3, false :: r => takeC 12 2047 r
  | 3, true :: r => takeN 64 r
  | _, r => takeN 64 r
theorem tcFrom_zero (r : List Bool) : takeChange r = tcFrom 0 r := by
  match r with
  | [] => rfl
  | false :: r => simp [takeChange, tcFrom]
  | [true] => rfl
  | true :: false :: r => simp [takeChange, tcFrom]
  | [true, true] => rfl
  | true :: true :: false :: r => simp [takeChange, tcFrom]
  | [true, true, true] => rfl
  | true :: true :: true :: false :: r => simp [takeChange, tcFrom]
  | true :: true :: true :: true :: r => simp [takeChange, tcFrom]
theorem tcFrom_true (k : Nat) (hk : k < 4) (r : List Bool) : tcFrom k (true :: r) = tcFrom (k + 1) r := by
  match k, hk with
  | 0, _ => simp [tcFrom]
  | 1, _ => simp [tcFrom]
  | 2, _ => simp [tcFrom]
  | 3, _ => simp [tcFrom]
theorem tcFrom_nil (k : Nat) (hk : k < 4) : tcFrom k [] = none := by
  match k, hk with
  | 0, _ => rfl
  | 1, _ => rfl
  | 2, _ => rfl
  | 3, _ => rfl
theorem tcFrom_four (r : List Bool) : tcFrom 4 r = takeN 64 r := by
  cases r with
  | nil => rfl
  | cons b t => cases b <;> simp [tcFrom]
/-- What takeChange tells. -/
def Told (w : World) (U : Nat) (v : Value) (ys : List UInt8) (s : An) (res : Option (Nat × List Bool)) (e : Ending) (w' : World) : Prop :=
  ∃ (c : Nat) (b : Bool) (p' : Nat), e = .returned (.tuple #[.int .u64 c, .bool b]) ∧ c < 18446744073709551616 ∧ Rd w' U v ys p' s ∧ Kept (fun k => k = U) w w' ∧ (res = none → b = false) ∧ ∀ c' r, res = some (c', r) → b = true ∧ c = c' ∧ (ub ys).drop p' = r
theorem Told.no {w : World} {U : Nat} {v : Value} {ys : List UInt8} {s : An} {res : Option (Nat × List Bool)} {w' : World} (hr : res = none) (c : Nat) (hc : c < 18446744073709551616) {p' : Nat} (h1 : Rd w' U v ys p' s) (h2 : Kept (fun k => k = U) w w') : Told w U v ys s res (.returned (.tuple #[.int .u64 c, .bool false])) w' :=
  ⟨c, false, p', rfl, hc, h1, h2, fun _ => rfl, fun c' r e => by rw [hr] at e; cases e⟩
theorem Told.yes {w : World} {U : Nat} {v : Value} {ys : List UInt8} {s : An} {res : Option (Nat × List Bool)} {w' : World} {c : Nat} {r : List Bool} (hr : res = some (c, r)) (hc : c < 18446744073709551616) {p' : Nat} (h1 : Rd w' U v ys p' s) (h2 : Kept (fun k => k = U) w w') (h3 : (ub ys).drop p' = r) : Told w U v ys s res (.returned (.tuple #[.int .u64 c, .bool true])) w' :=
  ⟨c, true, p', rfl, hc, h1, h2, (fun e => by rw [hr] at e; cases e), fun c' r' e => by rw [hr] at e; cases e; exact ⟨rfl, rfl, h3⟩⟩
theorem Steps.kept {w w' : World} {U : Nat} (h : Steps w) (hk : Kept (fun k => k = U) w w') (hU : U ≠ 1) : Steps w' := by
  obtain ⟨h1, h2, h3⟩ := h
  have hb := hk.block 1 (cell_lt h1) (fun e => hU e.symm)
  refine ⟨?_, ?_, ?_⟩
  · rw [World.cell?_of_block (w := w) (w' := w') (a := ⟨1, 0, none⟩) hb]; exact h1
  · rw [World.cell?_of_block (w := w) (w' := w') (a := ⟨1, 1, none⟩) hb]; exact h2
  · rw [World.cell?_of_block (w := w) (w' := w') (a := ⟨1, 2, none⟩) hb]; exact h3
theorem keptU {w a b : World} {U : Nat} (h : Kept (fun k => k = U) w a) (k : Kept (fun k => k = U) a b) : Kept (fun k => k = U) w b := h.trans k (fun _ _ h => h)

set_option maxRecDepth 100000 in
set_option maxHeartbeats 4000000 in
theorem takeChange_any (w : World) (U : Nat) (v : Value) (ys : List UInt8) (p : Nat) (s : An) (h : Rd w U v ys p s) (hS : Steps w) (hU : U ≠ 1) :
    Calls Tryd.prog 57 #[.pointer (some ⟨U, 0, none⟩)] w fun e w' => Told w U v ys s (takeChange ((ub ys).drop p)) e w' := by
  have HR : Hid (Rd w U v ys p s) := h
  have HS : Hid (Steps w) := hS
  clear h hS
  rw [tcFrom_zero]
  obtain ⟨res, hres⟩ : ∃ res, res = tcFrom 0 ((ub ys).drop p) := ⟨_, rfl⟩
  have HRES : Hid (res = tcFrom 0 ((ub ys).drop p)) := hres
  rw [← hres]
  clear hres
  go_enter Tryd.func57, Tryd.ntmps57
  go_wp2
  go_loopw [9] (fun i wr => ∃ k : Nat, k ≤ 4 ∧ i = .int .i64 k ∧ Hid (Rd wr U v ys (p + k) s ∧ Kept (fun k => k = U) w wr ∧ res = tcFrom k ((ub ys).drop (p + k)))) (fun i _ => 4 - (intOf i).toNat)
  case atStart => exact ⟨0, by omega, rfl, HR.out, Kept.refl _ _, HRES.out⟩
  case round =>
    obtain ⟨k, hk, rfl, hI⟩ := hrel
    clear HR HRES
    have hk' : k = 0 ∨ k = 1 ∨ k = 2 ∨ k = 3 ∨ k = 4 := by omega
    obtain ⟨hrd, hkp, hrs⟩ := hI.out
    obtain ⟨s0, s1, s2⟩ := HS.out.kept hkp hU
    have HK : Hid (Kept (fun k => k = U) w wr) := hkp
    have HRD : Hid (Rd wr U v ys (p + k) s) := hrd
    clear hI hkp hrd HS
    cases hbits : (ub ys).drop (p + k) with
    | nil =>
      by_cases h4 : k = 4
      · subst h4
        have ht := take_none (width := 64) HRD.out (by omega) (by rw [hbits]; simp [takeN])
        have HRS : Hid (res = none) := by rw [hbits] at hrs; exact hrs
        clear hrs hbits
        go_wp2_with (go_at_call 53; refine ht.mono ?_; clear ht; rintro e w1 ⟨rfl, hr1, hk1⟩)
        go_ret2
        exact Told.no HRS.out 0 (by omega) hr1 (keptU HK.out hk1)
      · have ht := take_none (width := 1) HRD.out (by omega) (by rw [hbits]; exact takeN_nil)
        have HRS : Hid (res = none) := by rw [hbits, tcFrom_nil k (by omega)] at hrs; exact hrs
        have hk4 : (k : Int) < 4 := by omega
        clear hrs hbits
        go_wp2_with (go_at_call 53; refine ht.mono ?_; clear ht; rintro e w1 ⟨rfl, hr1, hk1⟩)
        go_ret2
        exact Told.no HRS.out 0 (by omega) hr1 (keptU HK.out hk1)
    | cons b t =>
      by_cases h4 : k = 4
      · subst h4
        have HRS : Hid (res = takeN 64 ((ub ys).drop (p + 4))) := hrs.trans (tcFrom_four _)
        clear hrs hbits
        cases ht : takeN 64 ((ub ys).drop (p + 4)) with
        | none =>
          have htk := take_none (width := 64) HRD.out (by omega) ht
          have HRS2 : Hid (res = none) := HRS.out.trans ht
          clear ht HRS
          go_wp2_with (go_at_call 53; refine htk.mono ?_; clear htk; rintro e w1 ⟨rfl, hr1, hk1⟩)
          go_ret2
          exact Told.no HRS2.out 0 (by omega) hr1 (keptU HK.out hk1)
        | some xr =>
          obtain ⟨x, r⟩ := xr
          have htk := take_some (width := 64) HRD.out (by omega) ht
          have HRS2 : Hid (res = some (x, r)) := HRS.out.trans ht
          clear ht HRS
          go_wp2_with (go_at_call 53; refine htk.mono ?_; clear htk; rintro e w1 ⟨rfl, hr1, hk1, hd1, hx1⟩)
          go_ret2
          exact Told.yes HRS2.out hx1 hr1 (keptU HK.out hk1) hd1
      · have ht := take_some (width := 1) HRD.out (by omega) (by rw [hbits]; exact takeN_one b t)
        have hk4 : (k : Int) < 4 := by omega
        have HRS : Hid (res = tcFrom k (b :: t)) := by rw [hbits] at hrs; exact hrs
        clear hrs hbits
        cases b with
        | true =>
          go_wp2_with (go_at_call 53; refine ht.mono ?_; clear ht; rintro e w1 ⟨rfl, hr1, hk1, hd1, -⟩)
          go_roundw
          case rel => exact ⟨k + 1, by omega, by go_num, hr1, keptU HK.out hk1, by rw [← Nat.add_assoc, hd1, ← tcFrom_true k (by omega)]; exact HRS.out⟩
          case measure => simp [intOf]; omega
        | false =>
          rcases hk' with rfl | rfl | rfl | rfl | rfl
          · have HRS2 : Hid (res = some (0, t)) := HRS.out.trans rfl
            clear HRS
            go_wp2_with (go_at_call 53; refine ht.mono ?_; clear ht; rintro e w1 ⟨rfl, hr1, hk1, hd1, -⟩)
            go_ret2
            exact Told.yes HRS2.out (by decide) hr1 (keptU HK.out hk1) hd1
          · have HRS2 : Hid (res = takeC 7 63 t) := HRS.out.trans rfl
            clear HRS
            have HST : Hid (∀ W, Kept (fun k => k = U) wr W → W.cell? ⟨1, 0, none⟩ = some (.int .i64 7)) := fun W h => (by
              have := (show Steps wr from ⟨s0, s1, s2⟩).kept h hU
              exact this.1)
            have HBI : Hid (∀ W, Calls Tryd.prog 45 #[.int .i64 7] W fun e w' => e = .returned (.int .u64 63) ∧ w' = W) := fun W => bias_any 7 W (by decide) (by decide)
            clear s0 s1 s2
            cases hc : takeN 7 t with
            | none =>
              have HR3 : Hid (res = none) := by show _ = _; rw [HRS2.out]; unfold takeC; rw [hc]; rfl
              have HTK : Hid (∀ W, Rd W U v ys (p + 1 + 1) s → (ub ys).drop (p + 1 + 1) = t → Calls Tryd.prog 53 #[.pointer (some ⟨U, 0, none⟩), .int .i64 7] W fun e w' => e = .returned (.tuple #[.int .u64 0, .bool false]) ∧ Rd w' U v ys (p + 1 + 1) s ∧ Kept (fun k => k = U) W w') := fun W h1 h2 => take_none (width := 7) h1 (by omega) (by rw [h2]; exact hc)
              clear hc HRS2
              go_wp2_with (first
                | (go_at_call 53; refine ht.mono ?_; clear ht; rintro e w1 ⟨rfl, hr1, hk1, hd1, -⟩; have cst := HST.out w1 hk1; have HR1 : Hid (Rd w1 U v ys (p + 1 + 1) s) := hr1; have HD1 : Hid ((ub ys).drop (p + 1 + 1) = t) := hd1; have HK1 : Hid (Kept (fun k => k = U) w w1) := keptU HK.out hk1; clear hr1 hd1 hk1)
                | (go_at_call 53; refine (HTK.out w1 HR1.out HD1.out).mono ?_; clear HTK; rintro e w2 ⟨rfl, hr2, hk2⟩; have HR2 : Hid (Rd w2 U v ys (p + 1 + 1) s) := hr2; have HK2 : Hid (Kept (fun k => k = U) w w2) := keptU HK1.out hk2; clear hr2 hk2)
                | (go_at_call 45; refine (HBI.out w2).mono ?_; clear HBI; rintro e w3 ⟨rfl, hw3⟩; have hw3 := hw3.symm; subst hw3))
              go_ret2
              exact Told.no HR3.out _ (by decide) HR2.out HK2.out
            | some xr =>
              obtain ⟨x, r⟩ := xr
              have HR3 : Hid (res = some ((x + (18446744073709551616 - 63)) % 18446744073709551616, r)) := by show _ = _; rw [HRS2.out]; unfold takeC; rw [hc]; rfl
              have HTK : Hid (∀ W, Rd W U v ys (p + 1 + 1) s → (ub ys).drop (p + 1 + 1) = t → Calls Tryd.prog 53 #[.pointer (some ⟨U, 0, none⟩), .int .i64 7] W fun e w' => e = .returned (.tuple #[.int .u64 x, .bool true]) ∧ Rd w' U v ys (p + 1 + 1 + 7) s ∧ Kept (fun k => k = U) W w' ∧ (ub ys).drop (p + 1 + 1 + 7) = r ∧ x < 2 ^ 7) := fun W h1 h2 => take_some (width := 7) h1 (by omega) (by rw [h2]; exact hc)
              obtain ⟨cc, hcc⟩ : ∃ cc, cc = (x + (18446744073709551616 - 63)) % 18446744073709551616 := ⟨_, rfl⟩
              rw [← hcc] at HR3
              have HCC : Hid (cc = (x + (18446744073709551616 - 63)) % 18446744073709551616) := hcc
              clear hc HRS2 hcc
              go_wp2_with (first
                | (go_at_call 53; refine ht.mono ?_; clear ht; rintro e w1 ⟨rfl, hr1, hk1, hd1, -⟩; have cst := HST.out w1 hk1; have HR1 : Hid (Rd w1 U v ys (p + 1 + 1) s) := hr1; have HD1 : Hid ((ub ys).drop (p + 1 + 1) = t) := hd1; have HK1 : Hid (Kept (fun k => k = U) w w1) := keptU HK.out hk1; clear hr1 hd1 hk1)
                | (go_at_call 53; refine (HTK.out w1 HR1.out HD1.out).mono ?_; clear HTK; rintro e w2 ⟨rfl, hr2, hk2, hd2, hx2⟩; have HR2 : Hid (Rd w2 U v ys (p + 1 + 1 + 7) s) := hr2; have HK2 : Hid (Kept (fun k => k = U) w w2) := keptU HK1.out hk2; have HD2 : Hid ((ub ys).drop (p + 1 + 1 + 7) = r) := hd2; have hw64 : IntKind.u64.wrap ((x : Int) - 63) = (cc : Int) := (by rw [IntKind.wrap_u64, HCC.out]; have : (2 : Nat) ^ 7 ≤ 4096 := (by decide); omega); clear hr2 hk2 hd2)
                | (go_at_call 45; refine (HBI.out w2).mono ?_; clear HBI; rintro e w3 ⟨rfl, hw3⟩; have hw3 := hw3.symm; subst hw3))
              go_ret2
              exact Told.yes HR3.out (by have := HCC.out; omega) HR2.out HK2.out HD2.out
          · have HRS2 : Hid (res = takeC 9 255 t) := HRS.out.trans rfl
            clear HRS
            have HST : Hid (∀ W, Kept (fun k => k = U) wr W → W.cell? ⟨1, 1, none⟩ = some (.int .i64 9)) := fun W h => (by
              have := (show Steps wr from ⟨s0, s1, s2⟩).kept h hU
              exact this.2.1)
            have HBI : Hid (∀ W, Calls Tryd.prog 45 #[.int .i64 9] W fun e w' => e = .returned (.int .u64 255) ∧ w' = W) := fun W => bias_any 9 W (by decide) (by decide)
            clear s0 s1 s2
            cases hc : takeN 9 t with
            | none =>
              have HR3 : Hid (res = none) := by show _ = _; rw [HRS2.out]; unfold takeC; rw [hc]; rfl
              have HTK : Hid (∀ W, Rd W U v ys (p + 2 + 1) s → (ub ys).drop (p + 2 + 1) = t → Calls Tryd.prog 53 #[.pointer (some ⟨U, 0, none⟩), .int .i64 9] W fun e w' => e = .returned (.tuple #[.int .u64 0, .bool false]) ∧ Rd w' U v ys (p + 2 + 1) s ∧ Kept (fun k => k = U) W w') := fun W h1 h2 => take_none (width := 9) h1 (by omega) (by rw [h2]; exact hc)
              clear hc HRS2
              go_wp2_with (first
                | (go_at_call 53; refine ht.mono ?_; clear ht; rintro e w1 ⟨rfl, hr1, hk1, hd1, -⟩; have cst := HST.out w1 hk1; have HR1 : Hid (Rd w1 U v ys (p + 2 + 1) s) := hr1; have HD1 : Hid ((ub ys).drop (p + 2 + 1) = t) := hd1; have HK1 : Hid (Kept (fun k => k = U) w w1) := keptU HK.out hk1; clear hr1 hd1 hk1)
                | (go_at_call 53; refine (HTK.out w1 HR1.out HD1.out).mono ?_; clear HTK; rintro e w2 ⟨rfl, hr2, hk2⟩; have HR2 : Hid (Rd w2 U v ys (p + 2 + 1) s) := hr2; have HK2 : Hid (Kept (fun k => k = U) w w2) := keptU HK1.out hk2; clear hr2 hk2)
                | (go_at_call 45; refine (HBI.out w2).mono ?_; clear HBI; rintro e w3 ⟨rfl, hw3⟩; have hw3 := hw3.symm; subst hw3))
              go_ret2
              exact Told.no HR3.out _ (by decide) HR2.out HK2.out
            | some xr =>
              obtain ⟨x, r⟩ := xr
              have HR3 : Hid (res = some ((x + (18446744073709551616 - 255)) % 18446744073709551616, r)) := by show _ = _; rw [HRS2.out]; unfold takeC; rw [hc]; rfl
              have HTK : Hid (∀ W, Rd W U v ys (p + 2 + 1) s → (ub ys).drop (p + 2 + 1) = t → Calls Tryd.prog 53 #[.pointer (some ⟨U, 0, none⟩), .int .i64 9] W fun e w' => e = .returned (.tuple #[.int .u64 x, .bool true]) ∧ Rd w' U v ys (p + 2 + 1 + 9) s ∧ Kept (fun k => k = U) W w' ∧ (ub ys).drop (p + 2 + 1 + 9) = r ∧ x < 2 ^ 9) := fun W h1 h2 => take_some (width := 9) h1 (by omega) (by rw [h2]; exact hc)
              obtain ⟨cc, hcc⟩ : ∃ cc, cc = (x + (18446744073709551616 - 255)) % 18446744073709551616 := ⟨_, rfl⟩
              rw [← hcc] at HR3
              have HCC : Hid (cc = (x + (18446744073709551616 - 255)) % 18446744073709551616) := hcc
              clear hc HRS2 hcc
              go_wp2_with (first
                | (go_at_call 53; refine ht.mono ?_; clear ht; rintro e w1 ⟨rfl, hr1, hk1, hd1, -⟩; have cst := HST.out w1 hk1; have HR1 : Hid (Rd w1 U v ys (p + 2 + 1) s) := hr1; have HD1 : Hid ((ub ys).drop (p + 2 + 1) = t) := hd1; have HK1 : Hid (Kept (fun k => k = U) w w1) := keptU HK.out hk1; clear hr1 hd1 hk1)
                | (go_at_call 53; refine (HTK.out w1 HR1.out HD1.out).mono ?_; clear HTK; rintro e w2 ⟨rfl, hr2, hk2, hd2, hx2⟩; have HR2 : Hid (Rd w2 U v ys (p + 2 + 1 + 9) s) := hr2; have HK2 : Hid (Kept (fun k => k = U) w w2) := keptU HK1.out hk2; have HD2 : Hid ((ub ys).drop (p + 2 + 1 + 9) = r) := hd2; have hw64 : IntKind.u64.wrap ((x : Int) - 255) = (cc : Int) := (by rw [IntKind.wrap_u64, HCC.out]; have : (2 : Nat) ^ 9 ≤ 4096 := (by decide); omega); clear hr2 hk2 hd2)
                | (go_at_call 45; refine (HBI.out w2).mono ?_; clear HBI; rintro e w3 ⟨rfl, hw3⟩; have hw3 := hw3.symm; subst hw3))
              go_ret2
              exact Told.yes HR3.out (by have := HCC.out; omega) HR2.out HK2.out HD2.out
          · have HRS2 : Hid (res = takeC 12 2047 t) := HRS.out.trans rfl
            clear HRS
            have HST : Hid (∀ W, Kept (fun k => k = U) wr W → W.cell? ⟨1, 2, none⟩ = some (.int .i64 12)) := fun W h => (by
              have := (show Steps wr from ⟨s0, s1, s2⟩).kept h hU
              exact this.2.2)
            have HBI : Hid (∀ W, Calls Tryd.prog 45 #[.int .i64 12] W fun e w' => e = .returned (.int .u64 2047) ∧ w' = W) := fun W => bias_any 12 W (by decide) (by decide)
            clear s0 s1 s2
            cases hc : takeN 12 t with
            | none =>
              have HR3 : Hid (res = none) := by show _ = _; rw [HRS2.out]; unfold takeC; rw [hc]; rfl
              have HTK : Hid (∀ W, Rd W U v ys (p + 3 + 1) s → (ub ys).drop (p + 3 + 1) = t → Calls Tryd.prog 53 #[.pointer (some ⟨U, 0, none⟩), .int .i64 12] W fun e w' => e = .returned (.tuple #[.int .u64 0, .bool false]) ∧ Rd w' U v ys (p + 3 + 1) s ∧ Kept (fun k => k = U) W w') := fun W h1 h2 => take_none (width := 12) h1 (by omega) (by rw [h2]; exact hc)
              clear hc HRS2
              go_wp2_with (first
                | (go_at_call 53; refine ht.mono ?_; clear ht; rintro e w1 ⟨rfl, hr1, hk1, hd1, -⟩; have cst := HST.out w1 hk1; have HR1 : Hid (Rd w1 U v ys (p + 3 + 1) s) := hr1; have HD1 : Hid ((ub ys).drop (p + 3 + 1) = t) := hd1; have HK1 : Hid (Kept (fun k => k = U) w w1) := keptU HK.out hk1; clear hr1 hd1 hk1)
                | (go_at_call 53; refine (HTK.out w1 HR1.out HD1.out).mono ?_; clear HTK; rintro e w2 ⟨rfl, hr2, hk2⟩; have HR2 : Hid (Rd w2 U v ys (p + 3 + 1) s) := hr2; have HK2 : Hid (Kept (fun k => k = U) w w2) := keptU HK1.out hk2; clear hr2 hk2)
                | (go_at_call 45; refine (HBI.out w2).mono ?_; clear HBI; rintro e w3 ⟨rfl, hw3⟩; have hw3 := hw3.symm; subst hw3))
              go_ret2
              exact Told.no HR3.out _ (by decide) HR2.out HK2.out
            | some xr =>
              obtain ⟨x, r⟩ := xr
              have HR3 : Hid (res = some ((x + (18446744073709551616 - 2047)) % 18446744073709551616, r)) := by show _ = _; rw [HRS2.out]; unfold takeC; rw [hc]; rfl
              have HTK : Hid (∀ W, Rd W U v ys (p + 3 + 1) s → (ub ys).drop (p + 3 + 1) = t → Calls Tryd.prog 53 #[.pointer (some ⟨U, 0, none⟩), .int .i64 12] W fun e w' => e = .returned (.tuple #[.int .u64 x, .bool true]) ∧ Rd w' U v ys (p + 3 + 1 + 12) s ∧ Kept (fun k => k = U) W w' ∧ (ub ys).drop (p + 3 + 1 + 12) = r ∧ x < 2 ^ 12) := fun W h1 h2 => take_some (width := 12) h1 (by omega) (by rw [h2]; exact hc)
              obtain ⟨cc, hcc⟩ : ∃ cc, cc = (x + (18446744073709551616 - 2047)) % 18446744073709551616 := ⟨_, rfl⟩
              rw [← hcc] at HR3
              have HCC : Hid (cc = (x + (18446744073709551616 - 2047)) % 18446744073709551616) := hcc
              clear hc HRS2 hcc
              go_wp2_with (first
                | (go_at_call 53; refine ht.mono ?_; clear ht; rintro e w1 ⟨rfl, hr1, hk1, hd1, -⟩; have cst := HST.out w1 hk1; have HR1 : Hid (Rd w1 U v ys (p + 3 + 1) s) := hr1; have HD1 : Hid ((ub ys).drop (p + 3 + 1) = t) := hd1; have HK1 : Hid (Kept (fun k => k = U) w w1) := keptU HK.out hk1; clear hr1 hd1 hk1)
                | (go_at_call 53; refine (HTK.out w1 HR1.out HD1.out).mono ?_; clear HTK; rintro e w2 ⟨rfl, hr2, hk2, hd2, hx2⟩; have HR2 : Hid (Rd w2 U v ys (p + 3 + 1 + 12) s) := hr2; have HK2 : Hid (Kept (fun k => k = U) w w2) := keptU HK1.out hk2; have HD2 : Hid ((ub ys).drop (p + 3 + 1 + 12) = r) := hd2; have hw64 : IntKind.u64.wrap ((x : Int) - 2047) = (cc : Int) := (by rw [IntKind.wrap_u64, HCC.out]; have : (2 : Nat) ^ 12 ≤ 4096 := (by decide); omega); clear hr2 hk2 hd2)
                | (go_at_call 45; refine (HBI.out w2).mono ?_; clear HBI; rintro e w3 ⟨rfl, hw3⟩; have hw3 := hw3.symm; subst hw3))
              go_ret2
              exact Told.yes HR3.out (by have := HCC.out; omega) HR2.out HK2.out HD2.out
          · exact absurd rfl h4

end Go.Proofs.YtkmclgbiedbfpaaDoor
