/- Sets have one order; are two sets alike? -/
import Derived.Test.YtcpoknmachphnabDoorLl
import Derived.Laws.StructEq
namespace Go.Proofs.YtcpoknmachphnabDoor
open Go.RowKit

def cb (a b : ByteArray) : Int := Lib.compareBytes a.data.toList b.data.toList
def cmpLb (x y : Lb) : Int := if cb x.1 y.1 = 0 then cb x.2 y.2 else cb x.1 y.1
def cmpL : List Lb → List Lb → Int
  | [], [] => 0
  | [], _ :: _ => -1
  | _ :: _, [] => 1
  | x :: a, y :: b => if cmpLb x y = 0 then cmpL a b else cmpLb x y

theorem strCompare_any (a b : ByteArray) (w : World) : Calls Tryd.prog 50 #[.string a, .string b] w fun e w' => e = .returned (.int .i64 (cb a b)) ∧ w' = w :=
  Any.strings_Compare Tryd.lays106 a b w

set_option maxRecDepth 100000 in
set_option maxHeartbeats 1000000 in
theorem compareLabel_any (x y : Lb) (w : World) :
    Calls Tryd.prog 35 #[.agg #[.string x.1, .string x.2], .agg #[.string y.1, .string y.2]] w fun e w' => e = .returned (.int .i64 (cmpLb x y)) ∧ Below w.heap.size w w' := by
  obtain ⟨a, b⟩ := x
  obtain ⟨c, d⟩ := y
  unfold cmpLb
  dsimp only
  have hC1 := fun W => strCompare_any a c W
  have hC2 := fun W => strCompare_any b d W
  have HB : Hid (∀ o1 o2, Below w.heap.size w ((w.alloc o1).alloc o2)) := fun o1 o2 => ((Below.refl _ _).alloc (Nat.le_refl _) _).alloc (by simp) _
  generalize cb a c = r1 at *
  generalize cb b d = r2 at *
  by_cases h1 : r1 = 0
  · subst h1
    go_enter Tryd.func35, Tryd.ntmps35
    go_wp2_with (first
      | (go_at_call 50; refine (hC1 _).mono ?_; clear hC1; rintro e w' ⟨rfl, rfl⟩)
      | (go_at_call 50; refine (hC2 _).mono ?_; rintro e w' ⟨rfl, rfl⟩))
    go_ret
    exact ⟨rfl, HB.out _ _⟩
  · rw [if_neg h1]
    go_enter Tryd.func35, Tryd.ntmps35
    go_wp2_with (first
      | (go_at_call 50; refine (hC1 _).mono ?_; clear hC1; rintro e w' ⟨rfl, rfl⟩))
    go_ret
    exact ⟨rfl, HB.out _ _⟩

theorem cmpL_drop {ls ms : List Lb} {k : Nat} (h1 : k < ls.length) (h2 : k < ms.length) : cmpL (ls.drop k) (ms.drop k) = if cmpLb ls[k] ms[k] = 0 then cmpL (ls.drop (k + 1)) (ms.drop (k + 1)) else cmpLb ls[k] ms[k] := by
  rw [List.drop_eq_getElem_cons h1, List.drop_eq_getElem_cons h2]
  rfl

set_option maxRecDepth 100000 in
set_option maxHeartbeats 1500000 in
theorem compareFunc_any (v u : Value) (ls ms : List Lb) (w : World) (h : LabsAt w v ls) (hm : LabsAt w u ms) (hl : ls.length ≤ 1000000) (_hl2 : ms.length ≤ 1000000) :
    Calls Tryd.prog 34 #[v, u, .func (.func 35) #[] #[]] w fun e w' => e = .returned (.int .i64 (cmpL ls ms)) ∧ Below w.heap.size w w' := by
  obtain ⟨a, c, rfl, -, -⟩ := id h
  obtain ⟨a2, c2, rfl, -, -⟩ := id hm
  have HC : Hid (LabsAt w (.slice a ls.length c) ls) := h
  have HM : Hid (LabsAt w (.slice a2 ms.length c2) ms) := hm
  have heC : ∀ args w, (callFunc 35 args).run Tryd.prog w = .ok (.enter 35 args) w := enters_of Tryd.func35 (by kernel_rfl) rfl
  clear h hm
  go_enter Tryd.func34, Tryd.ntmps34
  go_wp2
  go_loopw [13] (fun i wr => ∃ k : Nat, k ≤ ls.length ∧ k ≤ ms.length ∧ i = .int .i64 k ∧ Hid (cmpL (ls.drop k) (ms.drop k) = cmpL ls ms) ∧ Hid (Below w.heap.size w wr)) (fun i _ => ls.length - (intOf i).toNat)
  case atStart => exact ⟨0, Nat.zero_le _, Nat.zero_le _, rfl, rfl, Below.refl _ _⟩
  case round =>
    obtain ⟨k, hk, hk2, rfl, hall, hbel⟩ := hrel
    have hbW := hbel.out
    have hsW := hbW.size
    by_cases hlt : k < ls.length
    · obtain ⟨b, o, rfl, hone⟩ := HC.out.one k hlt
      obtain ⟨g0, g1⟩ := hone wr hbel.out
      obtain ⟨x, hx⟩ : ∃ x, x = ls[k] := ⟨_, rfl⟩
      rw [← hx] at g0 g1
      by_cases hlt2 : k < ms.length
      · obtain ⟨b2, o2, rfl, hone2⟩ := HM.out.one k hlt2
        obtain ⟨y, hy⟩ : ∃ y, y = ms[k] := ⟨_, rfl⟩
        rw [← hy] at hone2
        have HST : Hid (cmpL ls ms = if cmpLb x y = 0 then cmpL (ls.drop (k + 1)) (ms.drop (k + 1)) else cmpLb x y) := by
          show _ = _
          rw [← hall.out, cmpL_drop hlt hlt2, hx, hy]
        obtain ⟨x1, x2⟩ := x
        obtain ⟨y1, y2⟩ := y
        dsimp only at g0 g1 hone2
        have hb1 : Below w.heap.size w (wr.alloc (.cells #[.string x1, .string x2] 28)) := hbW.alloc hsW _
        obtain ⟨e0, e1⟩ := hone2 _ hb1
        have hb2 : Below w.heap.size w ((wr.alloc (.cells #[.string x1, .string x2] 28)).alloc (.cells #[.string y1, .string y2] 28)) := hb1.alloc hb1.size _
        have hcmp := compareLabel_any (x1, x2) (y1, y2) ((wr.alloc (.cells #[.string x1, .string x2] 28)).alloc (.cells #[.string y1, .string y2] 28))
        have HB2 : Hid (∀ w', Below ((wr.alloc (.cells #[.string x1, .string x2] 28)).alloc (.cells #[.string y1, .string y2] 28)).heap.size ((wr.alloc (.cells #[.string x1, .string x2] 28)).alloc (.cells #[.string y1, .string y2] 28)) w' → Below w.heap.size w w') := fun w' hb => hb2.trans (hb.mono hb2.size)
        clear hx hy hone hone2 hall hb1 hb2 hbW
        generalize cmpLb (x1, x2) (y1, y2) = r at *
        by_cases hr : r = 0
        · subst hr
          go_wp2_with (go_at_call 35; refine hcmp.mono ?_; rintro e w' ⟨rfl, hb3⟩)
          go_roundw
          case rel => exact ⟨k + 1, by omega, by omega, by go_num, by show _ = _; rw [HST.out]; simp, HB2.out _ hb3⟩
          case measure => simp [intOf]; omega
        · have HR : Hid (cmpL ls ms = r) := by show _ = _; rw [HST.out, if_neg hr]
          clear HST
          go_wp2_with (go_at_call 35; refine hcmp.mono ?_; rintro e w' ⟨rfl, hb3⟩)
          go_ret
          exact ⟨by rw [HR.out]; rfl, HB2.out _ hb3⟩
      · have HR : Hid (cmpL ls ms = 1) := by
          show _ = _
          rw [← hall.out, List.drop_of_length_le (show ms.length ≤ k by omega), List.drop_eq_getElem_cons hlt]
          rfl
        obtain ⟨x1, x2⟩ := x
        dsimp only at g0 g1
        have HB2 : Hid (∀ o, Below w.heap.size w (wr.alloc o)) := fun o => hbW.alloc hsW o
        clear hx hone hall hbW
        go_wp2
        go_ret
        exact ⟨by rw [HR.out]; rfl, HB2.out _⟩
    · by_cases hlt2 : ls.length < ms.length
      · have HR : Hid (cmpL ls ms = -1) := by
          show _ = _
          have e9 : k < ms.length := by omega
          rw [← hall.out, List.drop_of_length_le (show ls.length ≤ k by omega), List.drop_eq_getElem_cons e9]
          rfl
        clear hall HC HM
        go_wp2
        go_ret
        exact ⟨by rw [HR.out]; rfl, hbel.out⟩
      · have HR : Hid (cmpL ls ms = 0) := by
          show _ = _
          rw [← hall.out, List.drop_of_length_le (show ls.length ≤ k by omega), List.drop_of_length_le (show ms.length ≤ k by omega)]
          rfl
        clear hall HC HM
        go_wp2
        go_ret
        exact ⟨by rw [HR.out]; rfl, hbel.out⟩

theorem compare_sets (v u : Value) (ls ms : List Lb) (w : World) (h : LabsAt w v ls) (hm : LabsAt w u ms) (hl : ls.length ≤ 1000000) (hl2 : ms.length ≤ 1000000) :
    Calls Tryd.prog 21 #[v, u] w fun e w' => e = .returned (.int .i64 (cmpL ls ms)) ∧ Below w.heap.size w w' := by
  have hc := compareFunc_any v u ls ms w h hm hl hl2
  obtain ⟨a, c, rfl, -, -⟩ := id h
  obtain ⟨a2, c2, rfl, -, -⟩ := id hm
  clear h hm
  generalize cmpL ls ms = r at *
  go_enter Tryd.func21, Tryd.ntmps21
  go_wp2_with (go_at_call 34; refine hc.mono ?_; rintro e w' ⟨rfl, hb⟩)
  go_ret
  exact ⟨rfl, hb⟩

/-- Are two sets alike? -/
def eqLb (x y : Lb) : Bool := x.1.toList == y.1.toList && x.2.toList == y.2.toList
def eqL (ls ms : List Lb) : Bool := decide (ls = ms)
theorem toList_inj {a b : ByteArray} (h : a.toList = b.toList) : a = b := by
  rw [ByteArray.toList_eq, ByteArray.toList_eq] at h
  cases a
  cases b
  simp at h
  rw [h]
theorem eqLb_iff (x y : Lb) : eqLb x y = true ↔ x = y := by
  unfold eqLb
  rw [Bool.and_eq_true, beq_iff_eq, beq_iff_eq]
  constructor
  · rintro ⟨h1, h2⟩
    exact Prod.ext (toList_inj h1) (toList_inj h2)
  · rintro rfl
    exact ⟨rfl, rfl⟩

theorem lbFields : Tryd.prog.underlying 28 = some (.struct (Tryd.prog.fieldsOf 28)) := by kernel_rfl
theorem lbHeld : Tryd.prog.stoodInHeld 28 = false := by kernel_rfl
theorem lbGuard : Tryd.prog.eqGuardType Tryd.prog.depth 28 = false := by kernel_rfl
theorem eqRun (a b c d : ByteArray) (w : World) : (Op.equalIn 10000 28 (.agg #[.string a, .string b]) (.agg #[.string c, .string d])).run Tryd.prog w = .ok (a.toList == c.toList && b.toList == d.toList) w := by
  have u9 := Tryd.underlying9
  have a9 := Tryd.isAgg9
  have z9 := Tryd.sizeOf9
  rw [show (10000 : Nat) = 9999 + 1 from rfl, run_equalIn_agg w 9999 28 _ _ lbFields lbHeld]
  simp only [Program.fieldsOf, Tryd.underlying28]
  go_simp
  by_cases h1 : a.toList = c.toList <;> by_cases h2 : b.toList = d.toList <;> simp [h1, h2]

set_option maxRecDepth 100000 in
set_option maxHeartbeats 1500000 in
theorem alike_any (v u : Value) (ls ms : List Lb) (w : World) (h : LabsAt w v ls) (hm : LabsAt w u ms) (hl : ls.length ≤ 1000000) (hl2 : ms.length ≤ 1000000) :
    Calls Tryd.prog 20 #[v, u] w fun e w' => e = .returned (.bool (eqL ls ms)) ∧ ∃ q, w' = w.drewN q := by
  obtain ⟨a, c, rfl, -, -⟩ := id h
  obtain ⟨a2, c2, rfl, -, -⟩ := id hm
  have HC : Hid (LabsAt w (.slice a ls.length c) ls) := h
  have HM : Hid (LabsAt w (.slice a2 ms.length c2) ms) := hm
  clear h hm
  by_cases hle : ls.length = ms.length
  · go_enter Tryd.func20, Tryd.ntmps20
    have hlei : (ls.length : Int) = (ms.length : Int) := by omega
    go_wp2
    go_loopw [5] (fun i wr => ∃ k q : Nat, k ≤ ls.length ∧ i = .int .i64 k ∧ wr = w.drewN q ∧ Hid (∀ j (h1 : j < ls.length) (h2 : j < ms.length), j < k → ls[j] = ms[j])) (fun i _ => ls.length - (intOf i).toNat)
    case atStart => exact ⟨0, 0, Nat.zero_le _, rfl, rfl, fun _ _ _ h => absurd h (Nat.not_lt_zero _)⟩
    case round =>
      obtain ⟨k, q, hk, rfl, rfl, hall⟩ := hrel
      by_cases hlt : k < ls.length
      · have hlt2 : k < ms.length := by omega
        obtain ⟨b, o, rfl, hone⟩ := HC.out.one k hlt
        obtain ⟨b2, o2, rfl, hone2⟩ := HM.out.one k hlt2
        obtain ⟨x, hx⟩ : ∃ x, x = ls[k] := ⟨_, rfl⟩
        obtain ⟨y, hy⟩ : ∃ y, y = ms[k] := ⟨_, rfl⟩
        rw [← hx] at hone
        rw [← hy] at hone2
        obtain ⟨g0, g1⟩ := hone _ (below_drewN (Below.refl _ _) q)
        obtain ⟨e0, e1⟩ := hone2 _ (below_drewN (Below.refl _ _) q)
        have HX : Hid (ls[k] = x ∧ ms[k] = y) := ⟨hx.symm, hy.symm⟩
        have HQ : Hid (∀ m, (w.drewN q).drewN m = w.drewN (q + m)) := fun m => World.drewN_drewN _ _ _
        clear hone hone2 hx hy HC HM
        have hkl : (k : Int) < (ls.length : Int) := by omega
        have hkl2 : (k : Int) < (ms.length : Int) := by omega
        obtain ⟨x1, x2⟩ := x
        obtain ⟨y1, y2⟩ := y
        dsimp only at g0 g1 e0 e1
        generalize w.drewN q = wr at *
        have q3 := lbGuard
        have hrun := fun W => eqRun x1 x2 y1 y2 W
        have HEQ : Hid ((x1.toList == y1.toList && x2.toList == y2.toList) = eqLb (x1, x2) (y1, y2)) := rfl
        cases hxy : (x1.toList == y1.toList && x2.toList == y2.toList)
        · rw [hxy] at HEQ
          simp only [hxy] at hrun
          have HN : Hid (eqL ls ms = false) := by
            show _ = _
            unfold eqL
            rw [decide_eq_false_iff_not]
            intro e
            have h9 : ls[k] = ms[k] := by subst e; rfl
            rw [HX.out.1, HX.out.2] at h9
            have := (eqLb_iff _ _).2 h9
            rw [← HEQ.out] at this
            cases this
          go_wp2
          go_quiet (fail)
          go_wp2
          go_ret
          exact ⟨ret_bool HN.out.symm, q + nq, HQ.out nq⟩
        · rw [hxy] at HEQ
          simp only [hxy] at hrun
          have HN : Hid (∀ j (h1 : j < ls.length) (h2 : j < ms.length), j < k + 1 → ls[j] = ms[j]) := fun j h1 h2 hj => by
            rcases Nat.lt_succ_iff_lt_or_eq.1 hj with h9 | h9
            · exact hall.out j h1 h2 h9
            · subst h9
              rw [HX.out.1, HX.out.2]
              exact (eqLb_iff _ _).1 HEQ.out.symm
          go_wp2
          go_quiet (fail)
          go_wp2
          go_roundw
          case rel => exact ⟨k + 1, q + nq, by omega, by go_num, HQ.out nq, HN⟩
          case measure => simp [intOf]; omega
      · have HN : Hid (eqL ls ms = true) := by
          show _ = _
          unfold eqL
          rw [decide_eq_true_iff]
          exact List.ext_getElem hle fun j h1 h2 => hall.out j h1 h2 (by omega)
        clear hall HC HM
        go_wp2
        go_ret
        exact ⟨ret_bool HN.out.symm, q, rfl⟩
  · have HN : Hid (eqL ls ms = false) := by
      show _ = _
      unfold eqL
      rw [decide_eq_false_iff_not]
      intro e
      exact hle (by rw [e])
    have hlei : ¬ (ls.length : Int) = (ms.length : Int) := by omega
    clear HC HM
    go_enter Tryd.func20, Tryd.ntmps20
    go_wp2
    go_ret
    exact ⟨ret_bool HN.out.symm, 0, rfl⟩

end Go.Proofs.YtcpoknmachphnabDoor
