/- The reader of an expression: pieces of a class. -/
import Derived.Test.YtmbkcmfcdjccoaaDoorMP4
namespace Go.Proofs.YtmbkcmfcdjccoaaDoor
open Go.RowKit Go.Maps

theorem In32.one {x : Int} (h0 : 0 ≤ x) (h1 : x ≤ maxR) : In32 [(x, x)] := fun s hs => by rw [List.mem_singleton.1 hs]; exact ⟨h0, h1, h0, h1⟩
instance (l : List Sp) : Decidable (In32 l) := by unfold In32; infer_instance
theorem let_in : ∀ n : Fin 256, ((letS (UInt8.ofNat n.val)).map fun l => decide (In32 l) && decide (l.length ≤ 5)).getD true = true := by unfold In32 maxR; decide +kernel
theorem letS_in {c : UInt8} {l : List Sp} (h : letS c = some l) : In32 l ∧ l.length ≤ 5 := by
  have h9 := let_in ⟨c.toNat, c.toNat_lt⟩
  rw [UInt8.ofNat_toNat, h] at h9
  simpa using h9
theorem esc_in : ∀ n : Fin 256, ((escB (UInt8.ofNat n.val)).map fun x => decide (0 ≤ x) && decide (x ≤ 255)).getD true = true := by decide +kernel
theorem escB_in {c : UInt8} {x : Int} (h : escB c = some x) : 0 ≤ x ∧ x ≤ maxR := by
  have h9 := esc_in ⟨c.toNat, c.toNat_lt⟩
  rw [UInt8.ofNat_toNat, h] at h9
  have h8 : 0 ≤ x ∧ x ≤ 255 := by simpa using h9
  unfold maxR
  omega
/-- What may be said of what is read of a class. -/
def MbOk (s : ByteArray) (i : Nat) : Rd (List Sp × Bool) → Prop
  | .no p => i ≤ p ∧ p ≤ s.size
  | .yes (l, alone) p => i < p ∧ p ≤ s.size ∧ In32 l ∧ l.length ≤ 5 ∧ (alone = true → ∃ x : Int, l = [(x, x)] ∧ 0 ≤ x ∧ x ≤ maxR)
theorem escR_ok {s : ByteArray} {i : Nat} (hi : i ≤ s.size) : MbOk s i (escR s i) := by
  unfold escR
  by_cases hlt : i < s.size
  · rw [at_some hlt]
    dsimp only
    cases hl : letS s[i] with
    | some l =>
      obtain ⟨h1, h2⟩ := letS_in hl
      exact ⟨by omega, by omega, h1, h2, fun h => by cases h⟩
    | none =>
      cases he : escB s[i] with
      | some x =>
        obtain ⟨h1, h2⟩ := escB_in he
        exact ⟨by omega, by omega, In32.one h1 h2, by simp, fun _ => ⟨x, rfl, h1, h2⟩⟩
      | none => exact ⟨Nat.le_refl _, hi⟩
  · rw [at_none (by omega)]
    exact ⟨Nat.le_refl _, hi⟩
theorem memR_ok {s : ByteArray} {i : Nat} (first : Bool) (hi : i ≤ s.size) : MbOk s i (memR s i first) := by
  unfold memR
  split
  · exact ⟨Nat.le_refl _, hi⟩
  · rename_i hne
    have hlt : i < s.size := by omega
    obtain ⟨k1, k2, k3⟩ := charR_ok hlt
    split
    · have h := escR_ok (s := s) (i := i + 1) (by omega)
      cases hr : escR s (i + 1) with
      | no p => rw [hr] at h; exact ⟨by have := h.1; omega, h.2⟩
      | yes x p =>
        obtain ⟨l, al⟩ := x
        rw [hr] at h
        exact ⟨by have := h.1; omega, h.2⟩
    · split
      · exact ⟨by omega, k2⟩
      · have h1 : (0 : Int) ≤ ((charR s i).1 : Int) := by omega
        have h2 : ((charR s i).1 : Int) ≤ maxR := by unfold maxR; omega
        exact ⟨by omega, k2, In32.one h1 h2, by simp, fun _ => ⟨_, rfl, h1, h2⟩⟩

/-- What a piece, or a class, comes to. -/
def PcP (w : World) (U : Nat) (s : ByteArray) (g : Nat) (R : Rd (List Sp)) (e : Ending) (w' : World) : Prop := match R with
  | .no p => e = .returned (.tuple #[.slice none 0 0, .bool false]) ∧ RdS w U s g w' p
  | .yes l p => ∃ a c, e = .returned (.tuple #[.slice a l.length c, .bool true]) ∧ SpR w' w.heap.size (.slice a l.length c) l ∧ RdS w U s g w' p
/-- A span's first cell, in a row of its own. -/
theorem SpR.cell0 {w : World} {B : Nat} {a : Option Addr} {c : Nat} {x y : Int} (h : SpR w B (.slice a 1 c) [(x, y)]) : ∃ b o, a = some ⟨b, o, none⟩ ∧ ∀ w', Below w.heap.size w w' → w'.cell? ⟨b, o, none⟩ = some (.int .i32 x) := by
  have h9 : RowAt w (.slice a 1 c) 2 1 (spC [(x, y)]) := RowAt.of_row h
  obtain ⟨b, o, e, hc⟩ := h9.one (j := 0) (u := .int .i32 x) rfl
  exact ⟨b, o, e, hc⟩
theorem SpR.cellX {w : World} {B : Nat} {b o c : Nat} {x y : Int} (h : SpR w B (.slice (some ⟨b, o, none⟩) 1 c) [(x, y)]) : w.cell? ⟨b, o, none⟩ = some (.int .i32 x) := by
  obtain ⟨b', o', e, hc⟩ := h.cell0
  cases e
  exact hc w (Below.refl _ _)
theorem MbP.kept {w w' : World} {U : Nat} {s : ByteArray} {g : Nat} {R : Rd (List Sp × Bool)} {e : Ending} (h : MbP w U s g R e w') : Kept (fun k => k = U) w w' := by
  cases R with
  | no p => exact h.2.kept
  | yes x p =>
    obtain ⟨l, alone⟩ := x
    obtain ⟨a, c, he, hr, hs⟩ := h
    exact hs.kept
/-- sees, read alone. -/
theorem sees_q {w : World} {U : Nat} {s : ByteArray} {i g : Nat} (c : UInt8) (h : RdAt w U s i g) (hs : s.size ≤ 1000000) : Hid (∀ W, (∃ q, W = w.drewN q) → Calls Tryd.prog 44 #[.pointer (some ⟨U, 0, none⟩), .int .u8 c.toNat] W fun e w' => e = .returned (.bool (seesB s i c)) ∧ ∃ q, w' = W.drewN q) := fun W hW => by
  obtain ⟨q, rfl⟩ := hW
  exact sees_any U s i g c _ (h.drewN q) hs

/-- Behind a character and a dash. -/
def restR (s : ByteArray) (x : Int) (q : Nat) : Rd (List Sp) :=
  if seesB s q 45 = true ∧ 45 < x then .no q
  else match memR s q false with
    | .no r => .no r
    | .yes (h, al) r => if al = false ∨ (h.headD (0, 0)).1 < x then .no (r - 1) else .yes [(x, (h.headD (0, 0)).1)] r
theorem pieceR_go {s : ByteArray} {i p : Nat} {first : Bool} {x : Int} (h : memR s i first = .yes ([(x, x)], true) p) : pieceR s i first = if seesB s p 45 = false ∨ (p + 1 < s.size ∧ seesB s (p + 1) 93 = true) then .yes [(x, x)] p else restR s x (p + 1) := by
  unfold pieceR restR
  rw [h]
  dsimp only
  by_cases h1 : seesB s p 45 = false ∨ (p + 1 < s.size ∧ seesB s (p + 1) 93 = true)
  · rw [if_pos h1, if_pos (.inr h1)]
  · rw [if_neg h1, if_neg (by rintro (h2 | h2) <;> first | exact h1 h2 | cases h2)]
    cases memR s (p + 1) false <;> rfl

set_option maxRecDepth 100000 in
set_option maxHeartbeats 4000000 in
theorem piece_any (B U : Nat) (s : ByteArray) (i g : Nat) (first : Bool) (w : World) (h : RdAt w U s i g) (hE : Env8 w B) (hB : B ≤ U) (hi : i ≤ s.size) (hs : s.size ≤ 1000000) :
    Calls Tryd.prog 61 #[.pointer (some ⟨U, 0, none⟩), .bool first] w fun e w' => PcP w U s g (pieceR s i first) e w' := by
  have hU := h.lt
  have HU : Hid (U < w.heap.size) := hU
  have hm := member_any B U s i g first w h hE hB hi hs
  have hok := memR_ok first hi
  have HM2 : Hid (∀ W j b o d x, j ≤ s.size → RdS w U s g W j → SpR W w.heap.size (.slice (some ⟨b, o, none⟩) 1 d) [(x, x)] → Calls Tryd.prog 67 #[.pointer (some ⟨U, 0, none⟩), .bool false] W fun e w' => MbP w U s g (memR s j false) e w' ∧ SpR w' w.heap.size (.slice (some ⟨b, o, none⟩) 1 d) [(x, x)]) := fun W j b o d x hj hW hsp => (member_any B U s j g false W hW.rd (hE.kept hW.kept hB (by omega)) hB hj hs).mono (fun e w' hP => ⟨hP.on hW HU.out, hsp.kept hP.kept HU.out⟩)
  cases hr : memR s i first with
  | no p =>
    have hR : pieceR s i first = .no p := by unfold pieceR; rw [hr]
    rw [hR]
    rw [hr] at hm
    clear hR
    have HMB : Hid (Calls Tryd.prog 67 #[.pointer (some ⟨U, 0, none⟩), .bool first] w fun e w' => e = .returned (.tuple #[.slice none 0 0, .bool false, .bool false]) ∧ RdS w U s g w' p) := hm
    clear hm hok hr HM2 hE h
    go_enter Tryd.func61, Tryd.ntmps61
    go_wp2_with (go_at_call 67; refine HMB.out.mono ?_; clear HMB; rintro e w1 ⟨rfl, hl⟩; have HS : Hid (RdS w U s g w1 p) := hl; clear hl)
    go_quiet (fail)
    go_wp2
    go_ret2
    exact ⟨rfl, HS.out.drewN _⟩
  | yes x p =>
    obtain ⟨l, alone⟩ := x
    have hpr := hr
    rw [hr] at hm hok
    obtain ⟨o1, o2, o3, o4, o5⟩ := hok
    have HMB : Hid (Calls Tryd.prog 67 #[.pointer (some ⟨U, 0, none⟩), .bool first] w fun e w' => ∃ a c, e = .returned (.tuple #[.slice a l.length c, .bool alone, .bool true]) ∧ SpR w' w.heap.size (.slice a l.length c) l ∧ RdS w U s g w' p) := hm
    clear hm hr hE h
    cases alone with
    | false =>
      have hR : pieceR s i first = .yes l p := by unfold pieceR; rw [hpr]; exact if_pos (.inl rfl)
      rw [hR]
      clear HM2 o5 hR hpr
      go_enter Tryd.func61, Tryd.ntmps61
      go_wp2_with (go_at_call 67; refine HMB.out.mono ?_; clear HMB; rintro e w1 ⟨a, d, rfl, hsp, hl⟩; have HS : Hid (RdS w U s g w1 p) := hl; have HSP : Hid (SpR w1 w.heap.size (.slice a l.length d) l) := hsp; clear hl hsp)
      go_quiet (fail)
      go_wp2
      go_ret2
      exact ⟨a, d, rfl, row_below HSP.out (below_drewN (Below.refl _ _) _), HS.out.drewN _⟩
    | true =>
      obtain ⟨x, rfl, x0, x1⟩ := o5 rfl
      rw [pieceR_go hpr]
      clear hpr
      have HMB2 : Hid (Calls Tryd.prog 67 #[.pointer (some ⟨U, 0, none⟩), .bool first] w fun e w' => ∃ a c, e = .returned (.tuple #[.slice a 1 c, .bool true, .bool true]) ∧ SpR w' w.heap.size (.slice a 1 c) [(x, x)] ∧ RdS w U s g w' p) := HMB.out
      clear HMB
      have HMB := HMB2
      clear HMB2
      have hpz : (p : Int) ≤ s.size := by omega
      cases hD : seesB s p 45 with
      | false =>
        rw [if_pos (.inl rfl)]
        clear HM2
        go_enter Tryd.func61, Tryd.ntmps61
        go_wp2_with (go_at_call 67; refine HMB.out.mono ?_; clear HMB; rintro e w1 ⟨a, d, rfl, hsp, hl⟩; obtain ⟨b, o, rfl, hcell⟩ := hsp.cell0; have HS : Hid (RdS w U s g w1 p) := hl; have HSP : Hid (SpR w1 w.heap.size (.slice (some ⟨b, o, none⟩) 1 d) [(x, x)]) := hsp; have c0 := hl.rd.c0; have c1 := hl.rd.c1; have HQ := sees_q 45 hl.rd hs; rw [hD] at HQ; clear hl hsp hcell)
        go_quiet (first | (go_at_call 44; exact Calls.quiet_of (HQ.out _ ⟨_, rfl⟩)))
        go_wp2
        go_ret2
        exact ⟨_, d, rfl, row_below HSP.out (below_drewN (Below.refl _ _) _), HS.out.drewN _⟩
      | true =>
        have hlt := seesB_lt hD
        have hltz : (p : Int) + 1 ≤ s.size := by omega
        obtain ⟨P1, hP1⟩ : ∃ P1, P1 = p + 1 := ⟨_, rfl⟩
        rw [← hP1]
        have HP1 : Hid (P1 = p + 1) := hP1
        have hq : (p : Int) + 1 = (P1 : Int) := by omega
        have hP1s : P1 ≤ s.size := by omega
        clear hP1
        have HSE : Hid (∀ W, RdS w U s g W P1 → Calls Tryd.prog 44 #[.pointer (some ⟨U, 0, none⟩), .int .u8 45] W fun e w' => e = .returned (.bool (seesB s P1 45)) ∧ ∃ q, w' = W.drewN q) := fun W hW => sees_any U s P1 g 45 W hW.rd hs
        have HGO : (seesB s P1 45 = true ∧ 45 < x) ∨ (seesB s P1 45 = false ∨ (seesB s P1 45 = true ∧ ¬ 45 < x)) := by
          cases seesB s P1 45
          · exact .inr (.inl rfl)
          · by_cases hx : 45 < x
            · exact .inl ⟨rfl, hx⟩
            · exact .inr (.inr ⟨rfl, hx⟩)
        have HRN : Hid (seesB s P1 45 = true ∧ 45 < x → restR s x P1 = .no P1) := fun h => by unfold restR; rw [if_pos h]
        have HRM : Hid ((seesB s P1 45 = false ∨ (seesB s P1 45 = true ∧ ¬ 45 < x)) → restR s x P1 = match memR s P1 false with | .no r => .no r | .yes (h, al) r => if al = false ∨ (h.headD (0, 0)).1 < x then .no (r - 1) else .yes [(x, (h.headD (0, 0)).1)] r) := fun h => by
          unfold restR
          rw [if_neg (by rintro ⟨h1, h2⟩; rcases h with h3 | ⟨_, h3⟩ <;> first | (rw [h1] at h3; cases h3) | exact h3 h2)]
        by_cases hp1 : P1 < s.size
        · have hp1z : (P1 : Int) < s.size := by omega
          have hp1d : decide ((P1 : Int) < s.size) = true := decide_eq_true hp1z
          have hbl : s[P1].toNat < 256 := s[P1].toNat_lt
          cases hE : seesB s P1 93 with
          | true =>
            rw [if_pos (.inr ⟨hp1, rfl⟩)]
            have n93 : ((s[P1].toNat : Int) == 93) = true := by
              have h9 : ((s[P1].toNat : Int) == ((93 : UInt8).toNat : Int)) = (s[P1] == 93) := u8_eq
              rw [seesB_at hp1] at hE
              rw [hE] at h9
              exact h9
            clear HM2 hE
            go_enter Tryd.func61, Tryd.ntmps61
            go_wp2_with (go_at_call 67; refine HMB.out.mono ?_; clear HMB; rintro e w1 ⟨a, d, rfl, hsp, hl⟩; obtain ⟨b, o, rfl, hcell⟩ := hsp.cell0; have HS : Hid (RdS w U s g w1 p) := hl; have HSP : Hid (SpR w1 w.heap.size (.slice (some ⟨b, o, none⟩) 1 d) [(x, x)]) := hsp; have c0 := hl.rd.c0; have c1 := hl.rd.c1; have HQ := sees_q 45 hl.rd hs; rw [hD] at HQ; clear hl hsp hcell)
            go_quiet (first | (go_at_call 44; exact Calls.quiet_of (HQ.out _ ⟨_, rfl⟩)))
            go_wp2
            go_ret2
            exact ⟨_, d, rfl, row_below HSP.out (below_drewN (Below.refl _ _) _), HS.out.drewN _⟩
          | false =>
            rw [if_neg (by rintro (h | ⟨_, h⟩) <;> cases h)]
            have n93 : ((s[P1].toNat : Int) == 93) = false := by
              have h9 : ((s[P1].toNat : Int) == ((93 : UInt8).toNat : Int)) = (s[P1] == 93) := u8_eq
              rw [seesB_at hp1] at hE
              rw [hE] at h9
              exact h9
            clear hE
            go_enter Tryd.func61, Tryd.ntmps61
            go_wp2_with (go_at_call 67; refine HMB.out.mono ?_; clear HMB; rintro e w1 ⟨a, d, rfl, hsp, hl⟩; obtain ⟨b, o, rfl, hcell⟩ := hsp.cell0; have HS : Hid (RdS w U s g w1 p) := hl; have HSP : Hid (SpR w1 w.heap.size (.slice (some ⟨b, o, none⟩) 1 d) [(x, x)]) := hsp; have c0 := hl.rd.c0; have c1 := hl.rd.c1; have HQ := sees_q 45 hl.rd hs; rw [hD] at HQ; clear hl hsp hcell)
            go_quiet (first | (go_at_call 44; exact Calls.quiet_of (HQ.out _ ⟨_, rfl⟩)))
            have HS1 : Hid (RdS w U s g (w1.drewN nq) p ∧ SpR (w1.drewN nq) w.heap.size (.slice (some ⟨b, o, none⟩) 1 d) [(x, x)]) := ⟨HS.out.drewN nq, row_below HSP.out (below_drewN (Below.refl _ _) _)⟩
            clear HS HSP c0 c1 HQ
            obtain ⟨WA, hWA⟩ : ∃ WA, WA = w1.drewN nq := ⟨_, rfl⟩
            rw [← hWA] at HS1 ⊢
            clear hWA
            have c1 := HS1.out.1.rd.c1
            have f1 := HS1.out.1.rd.f1
            have HB1 : Hid (∀ v, v = Value.int .i64 P1 → RdS w U s g (WA.setCell ⟨U, 1, none⟩ v) P1 ∧ SpR (WA.setCell ⟨U, 1, none⟩ v) w.heap.size (.slice (some ⟨b, o, none⟩) 1 d) [(x, x)]) := fun v hv => ⟨HS1.out.1.set1 P1 hv, HS1.out.2.kept (Kept.un _ U 1 _) HU.out⟩
            rcases HGO with ⟨hE2, hx⟩ | hgo
            · have HX : Hid (restR s x P1 = .no P1) := HRN.out ⟨hE2, hx⟩
              rw [hE2] at HSE
              have hxd : decide ((45 : Int) < x) = true := decide_eq_true hx
              go_wp2_with (go_at_call 44; refine (HSE.out _ (HB1.out _ rfl).1).mono ?_; rintro e w2 ⟨rfl, q2, hw⟩; have HS2 : Hid (RdS w U s g w2 P1 ∧ SpR w2 w.heap.size (.slice (some ⟨b, o, none⟩) 1 d) [(x, x)]) := (by rw [hw]; exact ⟨(HB1.out _ rfl).1.drewN _, row_below (HB1.out _ rfl).2 (below_drewN (Below.refl _ _) _)⟩); clear hw HB1 HSE; have g0 := HS2.out.2.cellX)
              go_ret2
              rw [HX.out]
              exact ⟨rfl, HS2.out.1⟩
            · have HX : Hid _ := HRM.out hgo
              have hok2 := memR_ok (s := s) (i := P1) false hP1s
              have hm2 := fun W hW hsp => HM2.out W P1 b o d x hP1s hW hsp
              clear HM2 HRN HRM
              cases hr2 : memR s P1 false with
              | no r =>
                have HX2 : Hid (restR s x P1 = .no r) := by
                  have := HX.out
                  rw [hr2] at this
                  exact this
                rw [hr2] at hm2
                have HMM : Hid (∀ W, RdS w U s g W P1 → SpR W w.heap.size (.slice (some ⟨b, o, none⟩) 1 d) [(x, x)] → Calls Tryd.prog 67 #[.pointer (some ⟨U, 0, none⟩), .bool false] W fun e w' => e = .returned (.tuple #[.slice none 0 0, .bool false, .bool false]) ∧ RdS w U s g w' r) := fun W hW hsp => (hm2 W hW hsp).mono (fun e w' h => h.1)
                clear HX hm2 hok2 hr2
                rcases hgo with hE2 | ⟨hE2, hx⟩
                all_goals
                  rw [hE2] at HSE
                  clear hE2
                  (try have hxd : decide ((45 : Int) < x) = false := decide_eq_false hx)
                  go_wp2_with (first
                    | (go_at_call 44; refine (HSE.out _ (HB1.out _ rfl).1).mono ?_; rintro e w2 ⟨rfl, q2, hw⟩; have HS2 : Hid (RdS w U s g w2 P1 ∧ SpR w2 w.heap.size (.slice (some ⟨b, o, none⟩) 1 d) [(x, x)]) := (by rw [hw]; exact ⟨(HB1.out _ rfl).1.drewN _, row_below (HB1.out _ rfl).2 (below_drewN (Below.refl _ _) _)⟩); clear hw HB1 HSE; have g0 := HS2.out.2.cellX)
                    | (go_at_call 67; refine (HMM.out _ HS2.out.1 HS2.out.2).mono ?_; clear HMM; rintro e w3 ⟨rfl, hl⟩))
                  go_ret2
                  rw [HX2.out]
                  exact ⟨rfl, hl⟩
              | yes xx r =>
                obtain ⟨l2, al2⟩ := xx
                rw [hr2] at hm2 hok2
                obtain ⟨u1, u2, u3, u4, u5⟩ := hok2
                have hrz : (1 : Int) ≤ r := by omega
                cases al2 with
                | false =>
                  have HX2 : Hid (restR s x P1 = .no (r - 1)) := by
                    have := HX.out
                    rw [hr2] at this
                    exact this.trans (if_pos (.inl rfl))
                  have HMM : Hid (∀ W, RdS w U s g W P1 → SpR W w.heap.size (.slice (some ⟨b, o, none⟩) 1 d) [(x, x)] → Calls Tryd.prog 67 #[.pointer (some ⟨U, 0, none⟩), .bool false] W fun e w' => ∃ a n c, e = .returned (.tuple #[.slice a n c, .bool false, .bool true]) ∧ RdS w U s g w' r) := fun W hW hsp => (hm2 W hW hsp).mono (fun e w' h => by obtain ⟨⟨a, c, he, hsr, hl⟩, -⟩ := h; exact ⟨a, _, c, he, hl⟩)
                  clear HX hm2 hr2 u3 u4 u5
                  rcases hgo with hE2 | ⟨hE2, hx⟩
                  all_goals
                    rw [hE2] at HSE
                    clear hE2
                    (try have hxd : decide ((45 : Int) < x) = false := decide_eq_false hx)
                    go_wp2_with (first
                      | (go_at_call 44; refine (HSE.out _ (HB1.out _ rfl).1).mono ?_; rintro e w2 ⟨rfl, q2, hw⟩; have HS2 : Hid (RdS w U s g w2 P1 ∧ SpR w2 w.heap.size (.slice (some ⟨b, o, none⟩) 1 d) [(x, x)]) := (by rw [hw]; exact ⟨(HB1.out _ rfl).1.drewN _, row_below (HB1.out _ rfl).2 (below_drewN (Below.refl _ _) _)⟩); clear hw HB1 HSE; have g0 := HS2.out.2.cellX)
                      | (go_at_call 67; refine (HMM.out _ HS2.out.1 HS2.out.2).mono ?_; clear HMM g0; rintro e w3 ⟨a2, n2, d2, rfl, hl⟩; have HS3 : Hid (RdS w U s g w3 r) := hl; clear hl; have c1 := HS3.out.rd.c1; have f1 := HS3.out.rd.f1))
                    go_quiet (fail)
                    go_wp2
                    go_ret2
                    rw [HX2.out]
                    exact ⟨rfl, (HS3.out.drewN _).set1 (r - 1) (by go_num)⟩
                | true =>
                  obtain ⟨y, rfl, y0, y1⟩ := u5 rfl
                  have HMM : Hid (∀ W, RdS w U s g W P1 → SpR W w.heap.size (.slice (some ⟨b, o, none⟩) 1 d) [(x, x)] → Calls Tryd.prog 67 #[.pointer (some ⟨U, 0, none⟩), .bool false] W fun e w' => ∃ b2 o2 c, e = .returned (.tuple #[.slice (some ⟨b2, o2, none⟩) 1 c, .bool true, .bool true]) ∧ RdS w U s g w' r ∧ w'.cell? ⟨b, o, none⟩ = some (.int .i32 x) ∧ w'.cell? ⟨b2, o2, none⟩ = some (.int .i32 y)) := fun W hW hsp => (hm2 W hW hsp).mono (fun e w' h => by obtain ⟨⟨a, c, he, hsr, hl⟩, hs1⟩ := h; obtain ⟨b2, o2, rfl, hc⟩ := SpR.cell0 hsr; exact ⟨b2, o2, c, he, hl, hs1.cellX, hc _ (Below.refl _ _)⟩)
                  by_cases hyx : y < x
                  · have HX2 : Hid (restR s x P1 = .no (r - 1)) := by
                      have := HX.out
                      rw [hr2] at this
                      exact this.trans (if_pos (.inr hyx))
                    have hyd : decide (y < x) = true := decide_eq_true hyx
                    clear HX hm2 hr2 u3 u4 u5
                    rcases hgo with hE2 | ⟨hE2, hx⟩
                    all_goals
                      rw [hE2] at HSE
                      clear hE2
                      (try have hxd : decide ((45 : Int) < x) = false := decide_eq_false hx)
                      go_wp2_with (first
                        | (go_at_call 44; refine (HSE.out _ (HB1.out _ rfl).1).mono ?_; rintro e w2 ⟨rfl, q2, hw⟩; have HS2 : Hid (RdS w U s g w2 P1 ∧ SpR w2 w.heap.size (.slice (some ⟨b, o, none⟩) 1 d) [(x, x)]) := (by rw [hw]; exact ⟨(HB1.out _ rfl).1.drewN _, row_below (HB1.out _ rfl).2 (below_drewN (Below.refl _ _) _)⟩); clear hw HB1 HSE; have g0 := HS2.out.2.cellX)
                        | (go_at_call 67; refine (HMM.out _ HS2.out.1 HS2.out.2).mono ?_; clear HMM g0; rintro e w3 ⟨b2, o2, d2, rfl, hl, z0, z1⟩; have HS3 : Hid (RdS w U s g w3 r) := hl; clear hl; have c1 := HS3.out.rd.c1; have f1 := HS3.out.rd.f1))
                      go_quiet (fail)
                      go_wp2
                      go_ret2
                      rw [HX2.out]
                      exact ⟨rfl, (HS3.out.drewN _).set1 (r - 1) (by go_num)⟩
                  · have HX2 : Hid (restR s x P1 = .yes [(x, y)] r) := by
                      have := HX.out
                      rw [hr2] at this
                      exact this.trans (if_neg (by rintro (h | h) <;> first | exact hyx h | cases h))
                    have hyd : decide (y < x) = false := decide_eq_false hyx
                    clear HX hm2 hr2 u3 u4 u5
                    rcases hgo with hE2 | ⟨hE2, hx⟩
                    all_goals
                      rw [hE2] at HSE
                      clear hE2
                      (try have hxd : decide ((45 : Int) < x) = false := decide_eq_false hx)
                      go_wp2_with (first
                        | (go_at_call 44; refine (HSE.out _ (HB1.out _ rfl).1).mono ?_; rintro e w2 ⟨rfl, q2, hw⟩; have HS2 : Hid (RdS w U s g w2 P1 ∧ SpR w2 w.heap.size (.slice (some ⟨b, o, none⟩) 1 d) [(x, x)]) := (by rw [hw]; exact ⟨(HB1.out _ rfl).1.drewN _, row_below (HB1.out _ rfl).2 (below_drewN (Below.refl _ _) _)⟩); clear hw HB1 HSE; have g0 := HS2.out.2.cellX)
                        | (go_at_call 67; refine (HMM.out _ HS2.out.1 HS2.out.2).mono ?_; clear HMM g0; rintro e w3 ⟨b2, o2, d2, rfl, hl, z0, z1⟩; have HS3 : Hid (RdS w U s g w3 r) := hl; clear hl))
                      go_quiet (fail)
                      go_wp2
                      go_region
                      all_goals go_wp2
                      all_goals
                        go_ret2
                        rw [HX2.out]
                        exact ⟨_, _, rfl, (SpR.lit (w3.drewN (nq + 1)) [(x, y)] (by simp)).mono HS3.out.size, (HS3.out.drewN (nq + 1)).below ((Below.refl _ _).alloc (Nat.le_refl _) _)⟩
        · rw [if_neg (by rintro (h | ⟨h, _⟩) <;> first | (exact hp1 h) | cases h)]
          have hp1z : ¬ (P1 : Int) < s.size := by omega
          have hp1d : decide ((P1 : Int) < s.size) = false := decide_eq_false hp1z
          go_enter Tryd.func61, Tryd.ntmps61
          go_wp2_with (go_at_call 67; refine HMB.out.mono ?_; clear HMB; rintro e w1 ⟨a, d, rfl, hsp, hl⟩; obtain ⟨b, o, rfl, hcell⟩ := hsp.cell0; have HS : Hid (RdS w U s g w1 p) := hl; have HSP : Hid (SpR w1 w.heap.size (.slice (some ⟨b, o, none⟩) 1 d) [(x, x)]) := hsp; have c0 := hl.rd.c0; have c1 := hl.rd.c1; have HQ := sees_q 45 hl.rd hs; rw [hD] at HQ; clear hl hsp hcell)
          go_quiet (first | (go_at_call 44; exact Calls.quiet_of (HQ.out _ ⟨_, rfl⟩)))
          have HS1 : Hid (RdS w U s g (w1.drewN nq) p ∧ SpR (w1.drewN nq) w.heap.size (.slice (some ⟨b, o, none⟩) 1 d) [(x, x)]) := ⟨HS.out.drewN nq, row_below HSP.out (below_drewN (Below.refl _ _) _)⟩
          clear HS HSP c0 c1 HQ
          obtain ⟨WA, hWA⟩ : ∃ WA, WA = w1.drewN nq := ⟨_, rfl⟩
          rw [← hWA] at HS1 ⊢
          clear hWA
          have c1 := HS1.out.1.rd.c1
          have f1 := HS1.out.1.rd.f1
          have HB1 : Hid (∀ v, v = Value.int .i64 P1 → RdS w U s g (WA.setCell ⟨U, 1, none⟩ v) P1 ∧ SpR (WA.setCell ⟨U, 1, none⟩ v) w.heap.size (.slice (some ⟨b, o, none⟩) 1 d) [(x, x)]) := fun v hv => ⟨HS1.out.1.set1 P1 hv, HS1.out.2.kept (Kept.un _ U 1 _) HU.out⟩
          rcases HGO with ⟨hE2, hx⟩ | hgo
          · have HX : Hid (restR s x P1 = .no P1) := HRN.out ⟨hE2, hx⟩
            rw [hE2] at HSE
            have hxd : decide ((45 : Int) < x) = true := decide_eq_true hx
            go_wp2_with (go_at_call 44; refine (HSE.out _ (HB1.out _ rfl).1).mono ?_; rintro e w2 ⟨rfl, q2, hw⟩; have HS2 : Hid (RdS w U s g w2 P1 ∧ SpR w2 w.heap.size (.slice (some ⟨b, o, none⟩) 1 d) [(x, x)]) := (by rw [hw]; exact ⟨(HB1.out _ rfl).1.drewN _, row_below (HB1.out _ rfl).2 (below_drewN (Below.refl _ _) _)⟩); clear hw HB1 HSE; have g0 := HS2.out.2.cellX)
            go_ret2
            rw [HX.out]
            exact ⟨rfl, HS2.out.1⟩
          · have HX : Hid _ := HRM.out hgo
            have hok2 := memR_ok (s := s) (i := P1) false hP1s
            have hm2 := fun W hW hsp => HM2.out W P1 b o d x hP1s hW hsp
            clear HM2 HRN HRM
            cases hr2 : memR s P1 false with
            | no r =>
              have HX2 : Hid (restR s x P1 = .no r) := by
                have := HX.out
                rw [hr2] at this
                exact this
              rw [hr2] at hm2
              have HMM : Hid (∀ W, RdS w U s g W P1 → SpR W w.heap.size (.slice (some ⟨b, o, none⟩) 1 d) [(x, x)] → Calls Tryd.prog 67 #[.pointer (some ⟨U, 0, none⟩), .bool false] W fun e w' => e = .returned (.tuple #[.slice none 0 0, .bool false, .bool false]) ∧ RdS w U s g w' r) := fun W hW hsp => (hm2 W hW hsp).mono (fun e w' h => h.1)
              clear HX hm2 hok2 hr2
              rcases hgo with hE2 | ⟨hE2, hx⟩
              all_goals
                rw [hE2] at HSE
                clear hE2
                (try have hxd : decide ((45 : Int) < x) = false := decide_eq_false hx)
                go_wp2_with (first
                  | (go_at_call 44; refine (HSE.out _ (HB1.out _ rfl).1).mono ?_; rintro e w2 ⟨rfl, q2, hw⟩; have HS2 : Hid (RdS w U s g w2 P1 ∧ SpR w2 w.heap.size (.slice (some ⟨b, o, none⟩) 1 d) [(x, x)]) := (by rw [hw]; exact ⟨(HB1.out _ rfl).1.drewN _, row_below (HB1.out _ rfl).2 (below_drewN (Below.refl _ _) _)⟩); clear hw HB1 HSE; have g0 := HS2.out.2.cellX)
                  | (go_at_call 67; refine (HMM.out _ HS2.out.1 HS2.out.2).mono ?_; clear HMM; rintro e w3 ⟨rfl, hl⟩))
                go_ret2
                rw [HX2.out]
                exact ⟨rfl, hl⟩
            | yes xx r =>
              obtain ⟨l2, al2⟩ := xx
              rw [hr2] at hok2
              exact absurd hok2.1 (by have := hok2.2.1; omega)
end Go.Proofs.YtmbkcmfcdjccoaaDoor
