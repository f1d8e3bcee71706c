/- The document's Right. -/
import Derived.Test.YtjnjmpfldbkciaaGreatMB3
import Derived.Deep.RegionHeld3
namespace Go.Proofs.YtjnjmpfldbkciaaGreat
open Go.RowKit

def SizedL (ls : List Lb) : Prop := ∀ k (h : k < ls.length), ls[k].1.size ≤ maxLen ∧ ls[k].2.size ≤ maxLen
theorem wrap_in {n : Int} (h1 : -9223372036854775808 ≤ n) (h2 : n ≤ 9223372036854775807) : IntKind.i64.wrap n = n := by
  rw [IntWalk.i64_left]
  exact IntWalk.wrap64_in n ⟨h1, h2⟩
def rl : List Lb → Bool
  | a :: b :: r => decide (a.1.toList < b.1.toList) && rl (b :: r)
  | _ => true
theorem rl_iff : ∀ ls : List Lb, rl ls = true ↔ ∀ k (h : k + 1 < ls.length), ls[k].1.toList < ls[k + 1].1.toList
  | [] => by simp [rl]
  | [a] => by simp [rl]
  | a :: b :: r => by
    simp only [rl, Bool.and_eq_true, decide_eq_true_eq, rl_iff (b :: r)]
    constructor
    · intro ⟨h1, h2⟩ k hk
      cases k with
      | zero => exact h1
      | succ k => exact h2 k (by simpa using hk)
    · intro h
      exact ⟨h 0 (by simp), fun k hk => h (k + 1) (by simpa using hk)⟩
def okLb (x : Lb) : Bool := !x.2.toList.isEmpty && fairL x
def rightS (ls : List Lb) : Bool := decide (ls.length ≤ 64) && rl ls && ls.all okLb
theorem okLb_not {ls : List Lb} {k : Nat} (hk : k < ls.length) (h : okLb ls[k] = false) : rightS ls = false := by
  have h1 : ls.all okLb = false := by
    rw [Bool.eq_false_iff]
    intro h2
    have h3 := List.all_eq_true.1 h2 _ (List.getElem_mem hk)
    rw [h] at h3
    cases h3
  unfold rightS
  rw [h1, Bool.and_false]

/-- The first k labels are right ones. -/
def Good (ls : List Lb) (k : Nat) : Prop := (∀ i (h : i < ls.length), i < k → okLb ls[i] = true) ∧ ∀ i (h : i + 1 < ls.length), i + 1 < k → ls[i].1.toList < ls[i + 1].1.toList
theorem Good.done {ls : List Lb} (h : Good ls ls.length) : rightS ls = decide (ls.length ≤ 64) := by
  have h1 : rl ls = true := (rl_iff ls).2 fun i hi => h.2 i hi hi
  have h2 : ls.all okLb = true := List.all_eq_true.2 fun x hx => by
    obtain ⟨i, hi, rfl⟩ := List.getElem_of_mem hx
    exact h.1 i hi hi
  unfold rightS
  rw [h1, h2, Bool.and_true, Bool.and_true]
theorem right_not_less {ls : List Lb} {j : Nat} (hj : j + 1 < ls.length) (h : ¬ ls[j].1.toList < ls[j + 1].1.toList) : rightS ls = false := by
  have h1 : rl ls = false := by
    rw [Bool.eq_false_iff]
    intro h2
    exact h ((rl_iff ls).1 h2 j hj)
  unfold rightS
  rw [h1]
  simp

/-- Worlds that are below as w was. -/
def Cls (w W : World) : Prop := Below w.heap.size w W
theorem wp_region_class {P : Program} {id : Nat} {Q : Exit → Act → World → Prop} {a : Act} {w : World} {l : List Oper} {C : World → Prop} (hm : P.follows .mixedOrders = true) (hB : Region.lexB .any l.toArray = true) (hC : C w.drew)
    (h : wpQuiet P l.toArray C (fun a' => ∀ w', C w' → Q .normal a' w') l a) : (Code.region id l.toArray true).wp P Q a w :=
  wp_region_quiet (C := C) hm hB hC (by simpa using h)

theorem wpQuiet_val {P : Program} {ops : Array Oper} {C : World → Prop} {Q : Act → Prop} {a : Act} {o : Oper} {rest : List Oper} (v : Value) (hw : Region.wanted o (yielded ops a.tmps) = true) (h : ∀ w, C w → o.quietAt P a C w v) (hn : wpQuiet P ops C Q rest (a.put o.dst v)) : wpQuiet P ops C Q (o :: rest) a := by
  unfold wpQuiet
  rw [if_pos hw]
  exact ⟨v, h, hn⟩
theorem wpQuiet_not {P : Program} {ops : Array Oper} {C : World → Prop} {Q : Act → Prop} {a : Act} {o : Oper} {rest : List Oper} (hw : Region.wanted o (yielded ops a.tmps) = false) (hn : wpQuiet P ops C Q rest (a.put o.dst undef)) : wpQuiet P ops C Q (o :: rest) a := by
  unfold wpQuiet
  rw [if_neg (by rw [hw]; simp)]
  exact hn

def skipA : List Oper → Nat → Act → Act
  | o :: rest, k + 1, a => skipA rest k (a.put o.dst undef)
  | _, _, a => a
def skipsB (ops : Array Oper) : List Oper → Nat → Act → Bool
  | o :: rest, k + 1, a => !(Region.wanted o (yielded ops a.tmps)) && skipsB ops rest k (a.put o.dst undef)
  | _, _, _ => true
theorem wpQuiet_skips {P : Program} {ops : Array Oper} {C : World → Prop} {Q : Act → Prop} : ∀ (rest : List Oper) (k : Nat) (a : Act), skipsB ops rest k a = true → wpQuiet P ops C Q (rest.drop k) (skipA rest k a) → wpQuiet P ops C Q rest a
  | [], _, _, _, h => by simpa [skipA] using h
  | _ :: _, 0, _, _, h => by simpa [skipA] using h
  | o :: rest, k + 1, a, hs, h => by
    unfold skipsB at hs
    rw [Bool.and_eq_true] at hs
    refine wpQuiet_not (by simpa using hs.1) ?_
    exact wpQuiet_skips rest k _ hs.2 (by simpa [skipA] using h)
theorem wpQuiet_val_skips {P : Program} {ops : Array Oper} {C : World → Prop} {Q : Act → Prop} {a : Act} {o : Oper} {rest : List Oper} (k : Nat) (v : Value) (hw : Region.wanted o (yielded ops a.tmps) = true) (h : ∀ w, C w → o.quietAt P a C w v) (hs : skipsB ops rest k (a.put o.dst v) = true)
    (hn : wpQuiet P ops C Q (rest.drop k) (skipA rest k (a.put o.dst v))) : wpQuiet P ops C Q (o :: rest) a :=
  wpQuiet_val v hw h (wpQuiet_skips rest k _ hs hn)

set_option maxRecDepth 100000 in
set_option maxHeartbeats 6000000 in
theorem refRight_any (v : Value) (ls : List Lb) (w : World) (h : LbAt w v ls) (hsz : SizedL ls) :
    Calls Tryz.prog 15 #[v] w fun e w' => e = .returned (.bool (rightS ls)) ∧ Below w.heap.size w w' := by
  obtain ⟨a, c, rfl, hlc, -⟩ := id h
  have hl : ls.length ≤ 9223372036854775807 := Nat.le_trans hlc.1 hlc.2
  clear hlc
  have HC : Hid (LbAt w (.slice a ls.length c) ls) := h
  have HS : Hid (SizedL ls) := hsz
  clear h hsz
  go_enter Tryz.func15, Tryz.ntmps15
  go_wp2
  go_loopw [3] (fun i wr => ∃ k : Nat, k ≤ ls.length ∧ i = .int .i64 k ∧ Hid (Good ls k) ∧ Hid (Below w.heap.size w wr)) (fun i _ => ls.length - (intOf i).toNat)
  case atStart => exact ⟨0, Nat.zero_le _, rfl, ⟨fun _ _ h => absurd h (Nat.not_lt_zero _), fun _ _ h => absurd h (Nat.not_lt_zero _)⟩, Below.refl _ _⟩
  case round =>
    obtain ⟨k, hk, rfl, hall, hbel⟩ := hrel
    by_cases hlt : k < ls.length
    · obtain ⟨b, o, rfl, hone⟩ := HC.out.one k hlt
      have hs9 := HS.out k hlt
      obtain ⟨x, hx⟩ : ∃ x, x = ls[k].1 := ⟨_, rfl⟩
      obtain ⟨y, hy⟩ : ∃ y, y = ls[k].2 := ⟨_, rfl⟩
      rw [← hx, ← hy] at hone hs9
      have HO : Hid (∀ W, Below w.heap.size w W → W.cell? ⟨b, o + k * 2, none⟩ = some (.string x) ∧ W.cell? ⟨b, o + k * 2 + 1, none⟩ = some (.string y)) := hone
      have HX : Hid (ls[k] = (x, y)) := by show _ = _; rw [hx, hy]
      have HXn : Hid (ls[k].1 = x) := hx.symm
      obtain ⟨g0, g1⟩ := hone wr hbel.out
      have hf := fun W => fair_any (x, y) W hs9.1 hs9.2
      clear hone hx hy
      have hkl : (k : Int) < (ls.length : Int) := by omega
      have HBD : Hid (Below w.heap.size w wr.drew) := hbel.out.drew
      dsimp only at hf
      have hbC : Cls w wr.drew := HBD.out
      have hc0 : ∀ W, Cls w W → W.cell? ⟨b, o + k * 2, none⟩ = some (.string x) := fun W hW => (HO.out W hW).1
      have hc1 : ∀ W, Cls w W → W.cell? ⟨b, o + k * 2 + 1, none⟩ = some (.string y) := fun W hW => (HO.out W hW).2
      have hfc : ∀ W, Cls w W → Calls Tryz.prog 35 #[.agg #[.string x, .string y]] W fun e w' => e = .returned (.bool (fairL (x, y))) ∧ Cls w w' := fun W hW => (hf W).mono fun e w' ⟨he, hb⟩ => ⟨he, Below.trans hW (hb.mono (Below.size hW))⟩
      clear hf HBD
      cases hfr : fairL (x, y)
      · have HN : Hid (rightS ls = false) := okLb_not hlt (by rw [HX.out]; simp [okLb, hfr])
        rw [hfr] at hfc
        clear HC HX HXn hall hfr HO g0 g1
        go_wp2_with fail
        refine wp_region_class (C := Cls w) (by kernel_rfl) (by kernel_rfl) hbC ?_
        refine wpQuiet_val ?_ (by rfl) (fun w1 hw1 => ?_) ?_
        rotate_left
        focus (go_simp; rfl)
        simp only [Act.put, List.setIfInBounds_toArray, List.set_cons_zero, List.set_cons_succ]
        refine wpQuiet_val ?_ (by rfl) (fun w1 hw1 => ?_) ?_
        rotate_left
        focus (go_simp; rfl)
        simp only [Act.put, List.setIfInBounds_toArray, List.set_cons_zero, List.set_cons_succ]
        refine wpQuiet_val ?_ (by rfl) (fun w1 hw1 => ?_) ?_
        rotate_left
        focus (go_simp; rfl)
        simp only [Act.put, List.setIfInBounds_toArray, List.set_cons_zero, List.set_cons_succ]
        refine wpQuiet_val ?_ (by rfl) (fun w1 hw1 => ?_) ?_
        rotate_left
        focus (have q0 := hc0 w1 hw1; have q1 := hc1 w1 hw1; go_simp; first | rfl | done)
        simp only [Act.put, List.setIfInBounds_toArray, List.set_cons_zero, List.set_cons_succ]
        refine wpQuiet_val ?_ (by rfl) (fun w1 hw1 => ?_) ?_
        rotate_left
        focus (go_simp; exact hfc w1 hw1)
        simp only [Act.put, List.setIfInBounds_toArray, List.set_cons_zero, List.set_cons_succ]
        refine wpQuiet_val ?_ (by rfl) (fun w1 hw1 => ?_) ?_
        rotate_left
        focus (go_simp; rfl)
        simp only [Act.put, List.setIfInBounds_toArray, List.set_cons_zero, List.set_cons_succ]
        refine wpQuiet_val_skips 6 (.bool true) (by rfl) (fun w1 hw1 => by go_simp) (by kernel_rfl) ?_
        simp only [skipA, List.drop_succ_cons, List.drop_zero, Act.put, List.setIfInBounds_toArray, List.set_cons_zero, List.set_cons_succ]
        refine wpQuiet_val ?_ (by rfl) (fun w1 hw1 => ?_) ?_
        rotate_left
        focus (go_simp; rfl)
        simp only [Act.put, List.setIfInBounds_toArray, List.set_cons_zero, List.set_cons_succ]
        refine wpQuiet_val_skips 16 (.bool true) (by rfl) (fun w1 hw1 => by go_simp) (by kernel_rfl) ?_
        simp only [skipA, List.drop_succ_cons, List.drop_zero, Act.put, List.setIfInBounds_toArray, List.set_cons_zero, List.set_cons_succ]
        refine wpQuiet_val ?_ (by rfl) (fun w1 hw1 => ?_) ?_
        rotate_left
        focus (go_simp; rfl)
        simp only [Act.put, List.setIfInBounds_toArray, List.set_cons_zero, List.set_cons_succ]
        refine wpQuiet_nil ?_
        intro W8 hW8
        have HB8 : Hid (Below w.heap.size w W8) := hW8
        clear hW8
        go_wp2
        go_ret
        exact ⟨ret_bool HN.out.symm, HB8.out⟩
      · rw [hfr] at hfc
        cases hy0 : y.toList.isEmpty
        · have hy1 : ¬ y.toList = [] := fun e => by rw [e] at hy0; cases hy0
          have hok : okLb ls[k] = true := by rw [HX.out]; simp [okLb, hfr, hy0]
          by_cases hk0 : k = 0
          · have HN : Hid (Good ls (k + 1)) := ⟨fun i hi h9 => by
                have : i = k := by omega
                subst this
                exact hok, fun i hi h9 => by omega⟩
            have hd1 : decide ((0 : Int) < (k : Int)) = false := decide_eq_false (by omega)
            have hd2 : decide (0 < k) = false := decide_eq_false (by omega)
            clear HC HX HXn hall hfr hok hk0 HO g0 g1
            go_wp2_with fail
            refine wp_region_class (C := Cls w) (by kernel_rfl) (by kernel_rfl) hbC ?_
            refine wpQuiet_val ?_ (by rfl) (fun w1 hw1 => ?_) ?_
            rotate_left
            focus (go_simp; rfl)
            simp only [Act.put, List.setIfInBounds_toArray, List.set_cons_zero, List.set_cons_succ]
            refine wpQuiet_val ?_ (by rfl) (fun w1 hw1 => ?_) ?_
            rotate_left
            focus (go_simp; rfl)
            simp only [Act.put, List.setIfInBounds_toArray, List.set_cons_zero, List.set_cons_succ]
            refine wpQuiet_val ?_ (by rfl) (fun w1 hw1 => ?_) ?_
            rotate_left
            focus (go_simp; rfl)
            simp only [Act.put, List.setIfInBounds_toArray, List.set_cons_zero, List.set_cons_succ]
            refine wpQuiet_val ?_ (by rfl) (fun w1 hw1 => ?_) ?_
            rotate_left
            focus (have q0 := hc0 w1 hw1; have q1 := hc1 w1 hw1; go_simp; first | rfl | done)
            simp only [Act.put, List.setIfInBounds_toArray, List.set_cons_zero, List.set_cons_succ]
            refine wpQuiet_val ?_ (by rfl) (fun w1 hw1 => ?_) ?_
            rotate_left
            focus (go_simp; exact hfc w1 hw1)
            simp only [Act.put, List.setIfInBounds_toArray, List.set_cons_zero, List.set_cons_succ]
            refine wpQuiet_val ?_ (by rfl) (fun w1 hw1 => ?_) ?_
            rotate_left
            focus (go_simp; rfl)
            simp only [Act.put, List.setIfInBounds_toArray, List.set_cons_zero, List.set_cons_succ]
            refine wpQuiet_val ?_ (by rfl) (fun w1 hw1 => ?_) ?_
            rotate_left
            focus (go_simp; rfl)
            simp only [Act.put, List.setIfInBounds_toArray, List.set_cons_zero, List.set_cons_succ]
            refine wpQuiet_val ?_ (by rfl) (fun w1 hw1 => ?_) ?_
            rotate_left
            focus (go_simp; rfl)
            simp only [Act.put, List.setIfInBounds_toArray, List.set_cons_zero, List.set_cons_succ]
            refine wpQuiet_val ?_ (by rfl) (fun w1 hw1 => ?_) ?_
            rotate_left
            focus (go_simp; rfl)
            simp only [Act.put, List.setIfInBounds_toArray, List.set_cons_zero, List.set_cons_succ]
            refine wpQuiet_val ?_ (by rfl) (fun w1 hw1 => ?_) ?_
            rotate_left
            focus (go_simp; rfl)
            simp only [Act.put, List.setIfInBounds_toArray, List.set_cons_zero, List.set_cons_succ]
            refine wpQuiet_val ?_ (by rfl) (fun w1 hw1 => ?_) ?_
            rotate_left
            focus (go_simp; rfl)
            simp only [Act.put, List.setIfInBounds_toArray, List.set_cons_zero, List.set_cons_succ]
            refine wpQuiet_val ?_ (by rfl) (fun w1 hw1 => ?_) ?_
            rotate_left
            focus (have q0 := hc0 w1 hw1; have q1 := hc1 w1 hw1; go_simp; first | rfl | done)
            simp only [Act.put, List.setIfInBounds_toArray, List.set_cons_zero, List.set_cons_succ]
            refine wpQuiet_val ?_ (by rfl) (fun w1 hw1 => ?_) ?_
            rotate_left
            focus (go_simp; rfl)
            simp only [Act.put, List.setIfInBounds_toArray, List.set_cons_zero, List.set_cons_succ]
            refine wpQuiet_val ?_ (by rfl) (fun w1 hw1 => ?_) ?_
            rotate_left
            focus (go_simp; rfl)
            simp only [Act.put, List.setIfInBounds_toArray, List.set_cons_zero, List.set_cons_succ]
            refine wpQuiet_val ?_ (by rfl) (fun w1 hw1 => ?_) ?_
            rotate_left
            focus (go_simp; rfl)
            simp only [Act.put, List.setIfInBounds_toArray, List.set_cons_zero, List.set_cons_succ]
            refine wpQuiet_val ?_ (by rfl) (fun w1 hw1 => ?_) ?_
            rotate_left
            focus (go_simp; rfl)
            simp only [Act.put, List.setIfInBounds_toArray, List.set_cons_zero, List.set_cons_succ]
            refine wpQuiet_val ?_ (by rfl) (fun w1 hw1 => ?_) ?_
            rotate_left
            focus (go_simp; rfl)
            simp only [Act.put, List.setIfInBounds_toArray, List.set_cons_zero, List.set_cons_succ]
            refine wpQuiet_val_skips 12 (.bool false) (by rfl) (fun w1 hw1 => by go_simp) (by kernel_rfl) ?_
            simp only [skipA, List.drop_succ_cons, List.drop_zero, Act.put, List.setIfInBounds_toArray, List.set_cons_zero, List.set_cons_succ]
            refine wpQuiet_val ?_ (by rfl) (fun w1 hw1 => ?_) ?_
            rotate_left
            focus (go_simp; rfl)
            simp only [Act.put, List.setIfInBounds_toArray, List.set_cons_zero, List.set_cons_succ]
            refine wpQuiet_val ?_ (by rfl) (fun w1 hw1 => ?_) ?_
            rotate_left
            focus (go_simp; rfl)
            simp only [Act.put, List.setIfInBounds_toArray, List.set_cons_zero, List.set_cons_succ]
            refine wpQuiet_nil ?_
            intro W8 hW8
            have HB8 : Hid (Below w.heap.size w W8) := hW8
            clear hW8
            go_wp2
            go_roundw
            case rel => exact ⟨k + 1, by omega, by go_num, HN, HB8⟩
            case measure => simp [intOf]; omega
          · obtain ⟨j, hj⟩ : ∃ j, k = j + 1 := ⟨k - 1, by omega⟩
            obtain ⟨b', o', e, hone'⟩ := HC.out.one j (by omega)
            cases e
            obtain ⟨z, hz⟩ : ∃ z, z = ls[j].1 := ⟨_, rfl⟩
            rw [← hz] at hone'
            have hc2 : ∀ W, Cls w W → W.cell? ⟨b, o + j * 2, none⟩ = some (.string z) := fun W hW => (hone' W hW).1
            have hwr : IntKind.i64.wrap ((k : Int) - 1) = (j : Int) := by rw [wrap_in (by omega) (by omega)]; omega
            have hjl : (j : Int) < (ls.length : Int) := by omega
            have hd1 : decide ((0 : Int) < (k : Int)) = true := decide_eq_true (by omega)
            have hd2 : decide (0 < k) = true := decide_eq_true (by omega)
            have HJ : Hid (k = j + 1) := hj
            clear hone' hk0
            cases hzx : Op.bytesLess z.toList x.toList
            · have HN : Hid (rightS ls = false) := by
                subst hj
                exact right_not_less hlt (by
                  rw [← hz, HXn.out]
                  rw [Go.Proofs.bytesLess_eq, decide_eq_false_iff_not] at hzx
                  exact hzx)
              clear HC HX HXn hall hfr hok hz hj HO g0 g1
              go_wp2_with fail
              refine wp_region_class (C := Cls w) (by kernel_rfl) (by kernel_rfl) hbC ?_
              refine wpQuiet_val ?_ (by rfl) (fun w1 hw1 => ?_) ?_
              rotate_left
              focus (go_simp; rfl)
              simp only [Act.put, List.setIfInBounds_toArray, List.set_cons_zero, List.set_cons_succ]
              refine wpQuiet_val ?_ (by rfl) (fun w1 hw1 => ?_) ?_
              rotate_left
              focus (go_simp; rfl)
              simp only [Act.put, List.setIfInBounds_toArray, List.set_cons_zero, List.set_cons_succ]
              refine wpQuiet_val ?_ (by rfl) (fun w1 hw1 => ?_) ?_
              rotate_left
              focus (go_simp; rfl)
              simp only [Act.put, List.setIfInBounds_toArray, List.set_cons_zero, List.set_cons_succ]
              refine wpQuiet_val ?_ (by rfl) (fun w1 hw1 => ?_) ?_
              rotate_left
              focus (have q0 := hc0 w1 hw1; have q1 := hc1 w1 hw1; have q2 := hc2 w1 hw1; go_simp; first | rfl | done)
              simp only [Act.put, List.setIfInBounds_toArray, List.set_cons_zero, List.set_cons_succ]
              refine wpQuiet_val ?_ (by rfl) (fun w1 hw1 => ?_) ?_
              rotate_left
              focus (go_simp; exact hfc w1 hw1)
              simp only [Act.put, List.setIfInBounds_toArray, List.set_cons_zero, List.set_cons_succ]
              refine wpQuiet_val ?_ (by rfl) (fun w1 hw1 => ?_) ?_
              rotate_left
              focus (go_simp; rfl)
              simp only [Act.put, List.setIfInBounds_toArray, List.set_cons_zero, List.set_cons_succ]
              refine wpQuiet_val ?_ (by rfl) (fun w1 hw1 => ?_) ?_
              rotate_left
              focus (go_simp; rfl)
              simp only [Act.put, List.setIfInBounds_toArray, List.set_cons_zero, List.set_cons_succ]
              refine wpQuiet_val ?_ (by rfl) (fun w1 hw1 => ?_) ?_
              rotate_left
              focus (go_simp; rfl)
              simp only [Act.put, List.setIfInBounds_toArray, List.set_cons_zero, List.set_cons_succ]
              refine wpQuiet_val ?_ (by rfl) (fun w1 hw1 => ?_) ?_
              rotate_left
              focus (go_simp; rfl)
              simp only [Act.put, List.setIfInBounds_toArray, List.set_cons_zero, List.set_cons_succ]
              refine wpQuiet_val ?_ (by rfl) (fun w1 hw1 => ?_) ?_
              rotate_left
              focus (go_simp; rfl)
              simp only [Act.put, List.setIfInBounds_toArray, List.set_cons_zero, List.set_cons_succ]
              refine wpQuiet_val ?_ (by rfl) (fun w1 hw1 => ?_) ?_
              rotate_left
              focus (go_simp; rfl)
              simp only [Act.put, List.setIfInBounds_toArray, List.set_cons_zero, List.set_cons_succ]
              refine wpQuiet_val ?_ (by rfl) (fun w1 hw1 => ?_) ?_
              rotate_left
              focus (have q0 := hc0 w1 hw1; have q1 := hc1 w1 hw1; have q2 := hc2 w1 hw1; go_simp; first | rfl | done)
              simp only [Act.put, List.setIfInBounds_toArray, List.set_cons_zero, List.set_cons_succ]
              refine wpQuiet_val ?_ (by rfl) (fun w1 hw1 => ?_) ?_
              rotate_left
              focus (go_simp; rfl)
              simp only [Act.put, List.setIfInBounds_toArray, List.set_cons_zero, List.set_cons_succ]
              refine wpQuiet_val ?_ (by rfl) (fun w1 hw1 => ?_) ?_
              rotate_left
              focus (go_simp; rfl)
              simp only [Act.put, List.setIfInBounds_toArray, List.set_cons_zero, List.set_cons_succ]
              refine wpQuiet_val ?_ (by rfl) (fun w1 hw1 => ?_) ?_
              rotate_left
              focus (go_simp; rfl)
              simp only [Act.put, List.setIfInBounds_toArray, List.set_cons_zero, List.set_cons_succ]
              refine wpQuiet_val ?_ (by rfl) (fun w1 hw1 => ?_) ?_
              rotate_left
              focus (go_simp; rfl)
              simp only [Act.put, List.setIfInBounds_toArray, List.set_cons_zero, List.set_cons_succ]
              refine wpQuiet_val ?_ (by rfl) (fun w1 hw1 => ?_) ?_
              rotate_left
              focus (go_simp; rfl)
              simp only [Act.put, List.setIfInBounds_toArray, List.set_cons_zero, List.set_cons_succ]
              refine wpQuiet_val ?_ (by rfl) (fun w1 hw1 => ?_) ?_
              rotate_left
              focus (go_simp; rfl)
              simp only [Act.put, List.setIfInBounds_toArray, List.set_cons_zero, List.set_cons_succ]
              refine wpQuiet_val ?_ (by rfl) (fun w1 hw1 => ?_) ?_
              rotate_left
              focus (go_simp; rfl)
              simp only [Act.put, List.setIfInBounds_toArray, List.set_cons_zero, List.set_cons_succ]
              refine wpQuiet_val ?_ (by rfl) (fun w1 hw1 => ?_) ?_
              rotate_left
              focus (go_simp; rfl)
              simp only [Act.put, List.setIfInBounds_toArray, List.set_cons_zero, List.set_cons_succ]
              refine wpQuiet_val ?_ (by rfl) (fun w1 hw1 => ?_) ?_
              rotate_left
              focus (go_simp; rfl)
              simp only [Act.put, List.setIfInBounds_toArray, List.set_cons_zero, List.set_cons_succ]
              refine wpQuiet_val ?_ (by rfl) (fun w1 hw1 => ?_) ?_
              rotate_left
              focus (go_simp; rfl)
              simp only [Act.put, List.setIfInBounds_toArray, List.set_cons_zero, List.set_cons_succ]
              refine wpQuiet_val ?_ (by rfl) (fun w1 hw1 => ?_) ?_
              rotate_left
              focus (go_simp; rfl)
              simp only [Act.put, List.setIfInBounds_toArray, List.set_cons_zero, List.set_cons_succ]
              refine wpQuiet_val ?_ (by rfl) (fun w1 hw1 => ?_) ?_
              rotate_left
              focus (have q0 := hc0 w1 hw1; have q1 := hc1 w1 hw1; have q2 := hc2 w1 hw1; go_simp; first | rfl | done)
              simp only [Act.put, List.setIfInBounds_toArray, List.set_cons_zero, List.set_cons_succ]
              refine wpQuiet_val ?_ (by rfl) (fun w1 hw1 => ?_) ?_
              rotate_left
              focus (go_simp; rfl)
              simp only [Act.put, List.setIfInBounds_toArray, List.set_cons_zero, List.set_cons_succ]
              refine wpQuiet_val ?_ (by rfl) (fun w1 hw1 => ?_) ?_
              rotate_left
              focus (go_simp; rfl)
              simp only [Act.put, List.setIfInBounds_toArray, List.set_cons_zero, List.set_cons_succ]
              refine wpQuiet_val ?_ (by rfl) (fun w1 hw1 => ?_) ?_
              rotate_left
              focus (go_simp; rfl)
              simp only [Act.put, List.setIfInBounds_toArray, List.set_cons_zero, List.set_cons_succ]
              refine wpQuiet_val ?_ (by rfl) (fun w1 hw1 => ?_) ?_
              rotate_left
              focus (go_simp; rfl)
              simp only [Act.put, List.setIfInBounds_toArray, List.set_cons_zero, List.set_cons_succ]
              refine wpQuiet_val ?_ (by rfl) (fun w1 hw1 => ?_) ?_
              rotate_left
              focus (have q0 := hc0 w1 hw1; have q1 := hc1 w1 hw1; have q2 := hc2 w1 hw1; go_simp; first | rfl | done)
              simp only [Act.put, List.setIfInBounds_toArray, List.set_cons_zero, List.set_cons_succ]
              refine wpQuiet_val ?_ (by rfl) (fun w1 hw1 => ?_) ?_
              rotate_left
              focus (go_simp; rfl)
              simp only [Act.put, List.setIfInBounds_toArray, List.set_cons_zero, List.set_cons_succ]
              refine wpQuiet_val ?_ (by rfl) (fun w1 hw1 => ?_) ?_
              rotate_left
              focus (go_simp; rfl)
              simp only [Act.put, List.setIfInBounds_toArray, List.set_cons_zero, List.set_cons_succ]
              refine wpQuiet_val ?_ (by rfl) (fun w1 hw1 => ?_) ?_
              rotate_left
              focus (go_simp; rfl)
              simp only [Act.put, List.setIfInBounds_toArray, List.set_cons_zero, List.set_cons_succ]
              refine wpQuiet_nil ?_
              intro W8 hW8
              have HB8 : Hid (Below w.heap.size w W8) := hW8
              clear hW8
              go_wp2
              go_ret
              exact ⟨ret_bool HN.out.symm, HB8.out⟩
            · have HN : Hid (Good ls (k + 1)) := ⟨fun i hi h9 => by
                  rcases Nat.lt_succ_iff_lt_or_eq.1 h9 with h1 | h1
                  · exact hall.out.1 i hi h1
                  · subst h1; exact hok, fun i hi h9 => by
                  rcases Nat.lt_succ_iff_lt_or_eq.1 h9 with h1 | h1
                  · exact hall.out.2 i hi h1
                  · subst hj
                    have : i = j := by omega
                    subst this
                    rw [← hz, HXn.out]
                    rw [Go.Proofs.bytesLess_eq, decide_eq_true_iff] at hzx
                    exact hzx⟩
              clear HC HX HXn hall hfr hok hz hj HO g0 g1
              go_wp2_with fail
              refine wp_region_class (C := Cls w) (by kernel_rfl) (by kernel_rfl) hbC ?_
              refine wpQuiet_val ?_ (by rfl) (fun w1 hw1 => ?_) ?_
              rotate_left
              focus (go_simp; rfl)
              simp only [Act.put, List.setIfInBounds_toArray, List.set_cons_zero, List.set_cons_succ]
              refine wpQuiet_val ?_ (by rfl) (fun w1 hw1 => ?_) ?_
              rotate_left
              focus (go_simp; rfl)
              simp only [Act.put, List.setIfInBounds_toArray, List.set_cons_zero, List.set_cons_succ]
              refine wpQuiet_val ?_ (by rfl) (fun w1 hw1 => ?_) ?_
              rotate_left
              focus (go_simp; rfl)
              simp only [Act.put, List.setIfInBounds_toArray, List.set_cons_zero, List.set_cons_succ]
              refine wpQuiet_val ?_ (by rfl) (fun w1 hw1 => ?_) ?_
              rotate_left
              focus (have q0 := hc0 w1 hw1; have q1 := hc1 w1 hw1; have q2 := hc2 w1 hw1; go_simp; first | rfl | done)
              simp only [Act.put, List.setIfInBounds_toArray, List.set_cons_zero, List.set_cons_succ]
              refine wpQuiet_val ?_ (by rfl) (fun w1 hw1 => ?_) ?_
              rotate_left
              focus (go_simp; exact hfc w1 hw1)
              simp only [Act.put, List.setIfInBounds_toArray, List.set_cons_zero, List.set_cons_succ]
              refine wpQuiet_val ?_ (by rfl) (fun w1 hw1 => ?_) ?_
              rotate_left
              focus (go_simp; rfl)
              simp only [Act.put, List.setIfInBounds_toArray, List.set_cons_zero, List.set_cons_succ]
              refine wpQuiet_val ?_ (by rfl) (fun w1 hw1 => ?_) ?_
              rotate_left
              focus (go_simp; rfl)
              simp only [Act.put, List.setIfInBounds_toArray, List.set_cons_zero, List.set_cons_succ]
              refine wpQuiet_val ?_ (by rfl) (fun w1 hw1 => ?_) ?_
              rotate_left
              focus (go_simp; rfl)
              simp only [Act.put, List.setIfInBounds_toArray, List.set_cons_zero, List.set_cons_succ]
              refine wpQuiet_val ?_ (by rfl) (fun w1 hw1 => ?_) ?_
              rotate_left
              focus (go_simp; rfl)
              simp only [Act.put, List.setIfInBounds_toArray, List.set_cons_zero, List.set_cons_succ]
              refine wpQuiet_val ?_ (by rfl) (fun w1 hw1 => ?_) ?_
              rotate_left
              focus (go_simp; rfl)
              simp only [Act.put, List.setIfInBounds_toArray, List.set_cons_zero, List.set_cons_succ]
              refine wpQuiet_val ?_ (by rfl) (fun w1 hw1 => ?_) ?_
              rotate_left
              focus (go_simp; rfl)
              simp only [Act.put, List.setIfInBounds_toArray, List.set_cons_zero, List.set_cons_succ]
              refine wpQuiet_val ?_ (by rfl) (fun w1 hw1 => ?_) ?_
              rotate_left
              focus (have q0 := hc0 w1 hw1; have q1 := hc1 w1 hw1; have q2 := hc2 w1 hw1; go_simp; first | rfl | done)
              simp only [Act.put, List.setIfInBounds_toArray, List.set_cons_zero, List.set_cons_succ]
              refine wpQuiet_val ?_ (by rfl) (fun w1 hw1 => ?_) ?_
              rotate_left
              focus (go_simp; rfl)
              simp only [Act.put, List.setIfInBounds_toArray, List.set_cons_zero, List.set_cons_succ]
              refine wpQuiet_val ?_ (by rfl) (fun w1 hw1 => ?_) ?_
              rotate_left
              focus (go_simp; rfl)
              simp only [Act.put, List.setIfInBounds_toArray, List.set_cons_zero, List.set_cons_succ]
              refine wpQuiet_val ?_ (by rfl) (fun w1 hw1 => ?_) ?_
              rotate_left
              focus (go_simp; rfl)
              simp only [Act.put, List.setIfInBounds_toArray, List.set_cons_zero, List.set_cons_succ]
              refine wpQuiet_val ?_ (by rfl) (fun w1 hw1 => ?_) ?_
              rotate_left
              focus (go_simp; rfl)
              simp only [Act.put, List.setIfInBounds_toArray, List.set_cons_zero, List.set_cons_succ]
              refine wpQuiet_val ?_ (by rfl) (fun w1 hw1 => ?_) ?_
              rotate_left
              focus (go_simp; rfl)
              simp only [Act.put, List.setIfInBounds_toArray, List.set_cons_zero, List.set_cons_succ]
              refine wpQuiet_val ?_ (by rfl) (fun w1 hw1 => ?_) ?_
              rotate_left
              focus (go_simp; rfl)
              simp only [Act.put, List.setIfInBounds_toArray, List.set_cons_zero, List.set_cons_succ]
              refine wpQuiet_val ?_ (by rfl) (fun w1 hw1 => ?_) ?_
              rotate_left
              focus (go_simp; rfl)
              simp only [Act.put, List.setIfInBounds_toArray, List.set_cons_zero, List.set_cons_succ]
              refine wpQuiet_val ?_ (by rfl) (fun w1 hw1 => ?_) ?_
              rotate_left
              focus (go_simp; rfl)
              simp only [Act.put, List.setIfInBounds_toArray, List.set_cons_zero, List.set_cons_succ]
              refine wpQuiet_val ?_ (by rfl) (fun w1 hw1 => ?_) ?_
              rotate_left
              focus (go_simp; rfl)
              simp only [Act.put, List.setIfInBounds_toArray, List.set_cons_zero, List.set_cons_succ]
              refine wpQuiet_val ?_ (by rfl) (fun w1 hw1 => ?_) ?_
              rotate_left
              focus (go_simp; rfl)
              simp only [Act.put, List.setIfInBounds_toArray, List.set_cons_zero, List.set_cons_succ]
              refine wpQuiet_val ?_ (by rfl) (fun w1 hw1 => ?_) ?_
              rotate_left
              focus (go_simp; rfl)
              simp only [Act.put, List.setIfInBounds_toArray, List.set_cons_zero, List.set_cons_succ]
              refine wpQuiet_val ?_ (by rfl) (fun w1 hw1 => ?_) ?_
              rotate_left
              focus (have q0 := hc0 w1 hw1; have q1 := hc1 w1 hw1; have q2 := hc2 w1 hw1; go_simp; first | rfl | done)
              simp only [Act.put, List.setIfInBounds_toArray, List.set_cons_zero, List.set_cons_succ]
              refine wpQuiet_val ?_ (by rfl) (fun w1 hw1 => ?_) ?_
              rotate_left
              focus (go_simp; rfl)
              simp only [Act.put, List.setIfInBounds_toArray, List.set_cons_zero, List.set_cons_succ]
              refine wpQuiet_val ?_ (by rfl) (fun w1 hw1 => ?_) ?_
              rotate_left
              focus (go_simp; rfl)
              simp only [Act.put, List.setIfInBounds_toArray, List.set_cons_zero, List.set_cons_succ]
              refine wpQuiet_val ?_ (by rfl) (fun w1 hw1 => ?_) ?_
              rotate_left
              focus (go_simp; rfl)
              simp only [Act.put, List.setIfInBounds_toArray, List.set_cons_zero, List.set_cons_succ]
              refine wpQuiet_val ?_ (by rfl) (fun w1 hw1 => ?_) ?_
              rotate_left
              focus (go_simp; rfl)
              simp only [Act.put, List.setIfInBounds_toArray, List.set_cons_zero, List.set_cons_succ]
              refine wpQuiet_val ?_ (by rfl) (fun w1 hw1 => ?_) ?_
              rotate_left
              focus (have q0 := hc0 w1 hw1; have q1 := hc1 w1 hw1; have q2 := hc2 w1 hw1; go_simp; first | rfl | done)
              simp only [Act.put, List.setIfInBounds_toArray, List.set_cons_zero, List.set_cons_succ]
              refine wpQuiet_val ?_ (by rfl) (fun w1 hw1 => ?_) ?_
              rotate_left
              focus (go_simp; rfl)
              simp only [Act.put, List.setIfInBounds_toArray, List.set_cons_zero, List.set_cons_succ]
              refine wpQuiet_val ?_ (by rfl) (fun w1 hw1 => ?_) ?_
              rotate_left
              focus (go_simp; rfl)
              simp only [Act.put, List.setIfInBounds_toArray, List.set_cons_zero, List.set_cons_succ]
              refine wpQuiet_val ?_ (by rfl) (fun w1 hw1 => ?_) ?_
              rotate_left
              focus (go_simp; rfl)
              simp only [Act.put, List.setIfInBounds_toArray, List.set_cons_zero, List.set_cons_succ]
              refine wpQuiet_nil ?_
              intro W8 hW8
              have HB8 : Hid (Below w.heap.size w W8) := hW8
              clear hW8
              go_wp2
              go_roundw
              case rel => exact ⟨k + 1, by omega, by go_num, HN, HB8⟩
              case measure => simp [intOf]; omega
        · have hy1 : y.toList = [] := by simpa using hy0
          have HN : Hid (rightS ls = false) := okLb_not hlt (by rw [HX.out]; simp [okLb, hy0])
          clear HC HX HXn hall hfr HO g0 g1
          go_wp2_with fail
          refine wp_region_class (C := Cls w) (by kernel_rfl) (by kernel_rfl) hbC ?_
          refine wpQuiet_val ?_ (by rfl) (fun w1 hw1 => ?_) ?_
          rotate_left
          focus (go_simp; rfl)
          simp only [Act.put, List.setIfInBounds_toArray, List.set_cons_zero, List.set_cons_succ]
          refine wpQuiet_val ?_ (by rfl) (fun w1 hw1 => ?_) ?_
          rotate_left
          focus (go_simp; rfl)
          simp only [Act.put, List.setIfInBounds_toArray, List.set_cons_zero, List.set_cons_succ]
          refine wpQuiet_val ?_ (by rfl) (fun w1 hw1 => ?_) ?_
          rotate_left
          focus (go_simp; rfl)
          simp only [Act.put, List.setIfInBounds_toArray, List.set_cons_zero, List.set_cons_succ]
          refine wpQuiet_val ?_ (by rfl) (fun w1 hw1 => ?_) ?_
          rotate_left
          focus (have q0 := hc0 w1 hw1; have q1 := hc1 w1 hw1; go_simp; first | rfl | done)
          simp only [Act.put, List.setIfInBounds_toArray, List.set_cons_zero, List.set_cons_succ]
          refine wpQuiet_val ?_ (by rfl) (fun w1 hw1 => ?_) ?_
          rotate_left
          focus (go_simp; exact hfc w1 hw1)
          simp only [Act.put, List.setIfInBounds_toArray, List.set_cons_zero, List.set_cons_succ]
          refine wpQuiet_val ?_ (by rfl) (fun w1 hw1 => ?_) ?_
          rotate_left
          focus (go_simp; rfl)
          simp only [Act.put, List.setIfInBounds_toArray, List.set_cons_zero, List.set_cons_succ]
          refine wpQuiet_val ?_ (by rfl) (fun w1 hw1 => ?_) ?_
          rotate_left
          focus (go_simp; rfl)
          simp only [Act.put, List.setIfInBounds_toArray, List.set_cons_zero, List.set_cons_succ]
          refine wpQuiet_val ?_ (by rfl) (fun w1 hw1 => ?_) ?_
          rotate_left
          focus (go_simp; rfl)
          simp only [Act.put, List.setIfInBounds_toArray, List.set_cons_zero, List.set_cons_succ]
          refine wpQuiet_val ?_ (by rfl) (fun w1 hw1 => ?_) ?_
          rotate_left
          focus (go_simp; rfl)
          simp only [Act.put, List.setIfInBounds_toArray, List.set_cons_zero, List.set_cons_succ]
          refine wpQuiet_val ?_ (by rfl) (fun w1 hw1 => ?_) ?_
          rotate_left
          focus (go_simp; rfl)
          simp only [Act.put, List.setIfInBounds_toArray, List.set_cons_zero, List.set_cons_succ]
          refine wpQuiet_val ?_ (by rfl) (fun w1 hw1 => ?_) ?_
          rotate_left
          focus (go_simp; rfl)
          simp only [Act.put, List.setIfInBounds_toArray, List.set_cons_zero, List.set_cons_succ]
          refine wpQuiet_val ?_ (by rfl) (fun w1 hw1 => ?_) ?_
          rotate_left
          focus (have q0 := hc0 w1 hw1; have q1 := hc1 w1 hw1; go_simp; first | rfl | done)
          simp only [Act.put, List.setIfInBounds_toArray, List.set_cons_zero, List.set_cons_succ]
          refine wpQuiet_val ?_ (by rfl) (fun w1 hw1 => ?_) ?_
          rotate_left
          focus (go_simp; rfl)
          simp only [Act.put, List.setIfInBounds_toArray, List.set_cons_zero, List.set_cons_succ]
          refine wpQuiet_val ?_ (by rfl) (fun w1 hw1 => ?_) ?_
          rotate_left
          focus (go_simp; rfl)
          simp only [Act.put, List.setIfInBounds_toArray, List.set_cons_zero, List.set_cons_succ]
          refine wpQuiet_val_skips 16 (.bool true) (by rfl) (fun w1 hw1 => by go_simp) (by kernel_rfl) ?_
          simp only [skipA, List.drop_succ_cons, List.drop_zero, Act.put, List.setIfInBounds_toArray, List.set_cons_zero, List.set_cons_succ]
          refine wpQuiet_val ?_ (by rfl) (fun w1 hw1 => ?_) ?_
          rotate_left
          focus (go_simp; rfl)
          simp only [Act.put, List.setIfInBounds_toArray, List.set_cons_zero, List.set_cons_succ]
          refine wpQuiet_nil ?_
          intro W8 hW8
          have HB8 : Hid (Below w.heap.size w W8) := hW8
          clear hW8
          go_wp2
          go_ret
          exact ⟨ret_bool HN.out.symm, HB8.out⟩
    · have HN : Hid (rightS ls = decide (ls.length ≤ 64)) := by
        have e : k = ls.length := by omega
        subst e
        exact hall.out.done
      clear hall HC
      by_cases h64 : ls.length ≤ 64
      · have hi : (ls.length : Int) ≤ 64 := by omega
        go_wp2
        go_ret
        exact ⟨by rw [HN.out]; simp [h64], hbel.out⟩
      · have hi : ¬ (ls.length : Int) ≤ 64 := by omega
        go_wp2
        go_ret
        exact ⟨by rw [HN.out]; simp [h64], hbel.out⟩

theorem right_few {ls : List Lb} (h : rightS ls = true) : ls.length ≤ 64 := by
  unfold rightS at h
  simp only [Bool.and_eq_true, decide_eq_true_eq] at h
  exact h.1.1

end Go.Proofs.YtjnjmpfldbkciaaGreat
