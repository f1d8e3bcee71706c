/- An operation begins: it is counted, and what refuses it is told. -/
import Derived.Test.YtihoccaaecmcfaaW2
namespace Go.Proofs.Ytihoccaaecmcfaa
open Go.RowKit Go.Maps

def bErr (bb : Bool) (stop : Int) : Int := if stop = 0 then 7 else if bb = true then 6 else 0
def bTorn (bb : Bool) (c stop : Int) : Bool := decide (stop ≠ 0) && bb && (c == 2)
def bStop (stop : Int) : Int := if 0 < stop then stop - 1 else stop

theorem ret_two {a b : Int} {x y : Bool} (h : a = b) (h' : x = y) : Ending.returned (.tuple #[.int .i64 a, .bool x]) = .returned (.tuple #[.int .i64 b, .bool y]) := by rw [h, h']

set_option maxRecDepth 100000 in
set_option maxHeartbeats 1000000 in
theorem begin_core (d : Nat) (cap used ops : Int) (nb db : Nat) (pv : Value) (fb : Nat) (stop : Int) (n : Nat) (F : DataW Unit) (w : World)
    (hd : DiskAt w d cap used ops nb db pv fb stop) (hF : w.ownsMap Try.prog 3 (plainElem Try.prog 3) fb n F) (ho : 0 ≤ ops) (ho' : ops < 1000000000) (hs : -1 ≤ stop) (HS : Hid (stop ≤ 9223372036854775807))
    (c : Int) (bb : Bool) (hlook : ∀ k, (Instr.lookup 66 (.map (some fb)) (.int .i64 ops) true).run Try.prog (w.drewN k) = .ok (.tuple #[.int .i64 c, .bool bb]) (w.drewN k)) :
    Calls Try.prog 44 #[.pointer (some ⟨d, 0, none⟩)] w fun e w' => e = .returned (.tuple #[.int .i64 (bErr bb stop), .bool (bTorn bb c stop)]) ∧ DiskAt w' d cap used (ops + 1) nb db pv fb (bStop stop) ∧
      w'.ownsMap Try.prog 3 (plainElem Try.prog 3) fb n (F.del (.int .i64 ops)) ∧ Kept (fun k => k = d ∨ k = fb) w w' := by
  obtain ⟨c0, c1, c2, c3, c4, c5, c6, c7, cf⟩ := hd.cells
  have hne := hd.ne_map hF
  have hst : Hid (∀ w1 nq, ((World.drewN w nq).drew).mapTurned w1 fb → w1.ownsMap Try.prog 3 (plainElem Try.prog 3) fb n (F.del (.int .i64 ops)) → DiskAt w1 d cap used ops nb db pv fb stop → bStop stop = stop →
      DiskAt (w1.setCell ⟨d, 2, none⟩ (.int .i64 (ops + 1))) d cap used (ops + 1) nb db pv fb (bStop stop) ∧ (w1.setCell ⟨d, 2, none⟩ (.int .i64 (ops + 1))).ownsMap Try.prog 3 (plainElem Try.prog 3) fb n (F.del (.int .i64 ops)) ∧ Kept (fun k => k = d ∨ k = fb) w (w1.setCell ⟨d, 2, none⟩ (.int .i64 (ops + 1)))) :=
    fun w1 nq ht ho h1 hb => ⟨by rw [hb]; exact h1.set2 _, ho.setCell hne.symm _, ((((Kept.refl _ w).drewN nq).drew).turned ht (fun _ => Or.inr rfl)).setCell (fun _ => Or.inl rfl) _⟩
  rcases Int.lt_trichotomy stop 0 with h | h | h
  all_goals cases bb
  all_goals
    go_enter Try.func44, Try.ntmps44
    go_wp2_with fail
    go_quiet (fail)
    go_wp2_with fail
    go_region_held3 (fun w' => w'.cell? ⟨d, 6, none⟩ = some (.map (some fb)) ∧ w'.cell? ⟨d, 2, none⟩ = some (.int .i64 ops)) (first | go_keep | (constructor <;> assumption))
      ((refine step_delete (by rfl) _ _ 66 3 3 (by rfl) law3 Try.underlying66 (plainElem Try.prog 3) fb n F (by rfl) hF _ (.int .i64 ops) (by rfl) (keyOf_int_mk Try.underlying3 (WalkArith.wf_i64 (by omega))) ?_; intro w1 hown1 hturn1; have hd1 := (DiskAt.turned (w := (w.drewN nq).drew) hd hturn1 hne); obtain ⟨d0, d1, d2, d3, d4, d5, d6, d7, df⟩ := hd1.cells))
    clear hlook c0 c1 c2 c3 c4 c5 c6 c7 cf
    go_wp2
    go_ret2
  · exact ⟨ret_two (by simp [bErr]; omega) (by simp [bTorn]), hst.out w1 _ hturn1 hown1 hd1 (by simp [bStop]; omega)⟩
  · exact ⟨ret_two (by simp [bErr]; omega) (by simp [bTorn]; omega), hst.out w1 _ hturn1 hown1 hd1 (by simp [bStop]; omega)⟩
  · exact ⟨ret_two (by simp [bErr, h]) (by simp [bTorn]), hst.out w1 _ hturn1 hown1 hd1 (by simp [bStop]; omega)⟩
  · exact ⟨ret_two (by simp [bErr, h]) (by simp [bTorn, h]), hst.out w1 _ hturn1 hown1 hd1 (by simp [bStop]; omega)⟩
  all_goals
    have hw : wrap64 (stop - 1) = stop - 1 := IntWalk.wrap64_in _ ⟨by omega, by have := HS.out; omega⟩
    have hbs : bStop stop = stop - 1 := by simp [bStop]; omega
    refine ⟨ret_two (by simp [bErr]; try omega) (by simp [bTorn]; try omega), by rw [hw, hbs]; exact (hd1.set2 _).set7 _, (hown1.setCell hne.symm _).setCell hne.symm _, ?_⟩
    exact (((((Kept.refl _ w).drewN nq).drew).turned hturn1 (fun _ => Or.inr rfl)).setCell (fun _ => Or.inl rfl) _).setCell (fun _ => Or.inl rfl) _

theorem begin_any (d : Nat) (cap used ops : Int) (nb db : Nat) (pv : Value) (fb : Nat) (stop : Int) (n : Nat) (F : DataW Unit) (w : World)
    (hd : DiskAt w d cap used ops nb db pv fb stop) (hF : w.ownsMap Try.prog 3 (plainElem Try.prog 3) fb n F) (ho : 0 ≤ ops) (ho' : ops < 1000000000) (hs : -1 ≤ stop) (HS : Hid (stop ≤ 9223372036854775807)) :
    ∃ c : Int, F.atKey (.int .i64 ops) (.lit (.int .i64 0)) = .lit (.int .i64 c) ∧
    Calls Try.prog 44 #[.pointer (some ⟨d, 0, none⟩)] w fun e w' => e = .returned (.tuple #[.int .i64 (bErr (Maps.has F (.int .i64 ops)) stop), .bool (bTorn (Maps.has F (.int .i64 ops)) c stop)]) ∧
      DiskAt w' d cap used (ops + 1) nb db pv fb (bStop stop) ∧ w'.ownsMap Try.prog 3 (plainElem Try.prog 3) fb n (F.del (.int .i64 ops)) ∧ Kept (fun k => k = d ∨ k = fb) w w' := by
  have hkey : keyOf Try.prog 3 (.int .i64 ops) = some (.int .i64 ops) := keyOf_int_mk Try.underlying3 (WalkArith.wf_i64 (by omega))
  have hz0 : plainElem (H := Unit) Try.prog 3 (.int .i64 0) = some (.lit (.int .i64 0), []) := plainElem_int Try.underlying3 (by decide)
  have look : ∀ k : Nat, ∃ c : Int, (Instr.lookup 66 (.map (some fb)) (.int .i64 ops) true).run Try.prog (w.drewN k) = .ok (.tuple #[.int .i64 c, .bool (Maps.has F (.int .i64 ops))]) (w.drewN k) ∧ F.atKey (.int .i64 ops) (.lit (.int .i64 0)) = .lit (.int .i64 c) := fun k => by
    obtain ⟨v, ps, hrun, hv⟩ := World.ownsMap.look_ok (w := w.drewN k) hF law3 Try.underlying66 (Try.zeroValue3 _) hz0 hkey
    obtain ⟨c, rfl, hc, _⟩ := plainElem_int_inv Try.underlying3 hv
    exact ⟨c, hrun, by simpa using congrArg Prod.fst hc⟩
  obtain ⟨c, _, hat⟩ := look 0
  refine ⟨c, hat, begin_core d cap used ops nb db pv fb stop n F w hd hF ho ho' hs HS c _ fun k => ?_⟩
  obtain ⟨c', hr, hat'⟩ := look k
  rw [hat] at hat'
  cases hat'
  exact hr

end Go.Proofs.Ytihoccaaecmcfaa
