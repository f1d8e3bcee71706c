/- A matcher of equality. -/
import Derived.Test.YtcpoknmachphnaaDoorLl
import Derived.Test.YtcpoknmachphnaaDoorL6r
namespace Go.Proofs.YtcpoknmachphnaaDoor
open Go.RowKit

theorem step_call2 (w : World) {P : Program} {ops : Array Oper} {o : Oper} {a : Act} {K : Act → World → Prop} {Q : Exit → Act → World → Prop} {E : Prop} (hgd : o.guard = none) (f : Nat) (x y : Operand) (t s : TypeId)
    (ho : o.op = .call { callee := .value (.func f), args := #[x, y], argTypes := #[t, s] }) (v u : Value) (hx : a.eval x = v) (hy : a.eval y = u) (he : ∀ args w, (callFunc f args).run P w = .ok (.enter f args) w) (R : Value → World → Prop)
    (hc : Calls P f #[v, u] w fun e w' => ∃ z, e = .returned z ∧ R z w') (h : ∀ z w', R z w' → K (a.put o.dst z) w') :
    if Region.wanted o (yielded ops a.tmps) = true then Oper.wp P o a w K Q else E := by
  have hw : Region.wanted o (yielded ops a.tmps) = true := by simp [Region.wanted, hgd]
  rw [if_pos hw]
  have hfn : a.eval (.func f) = .func (.func f) #[] #[] := rfl
  unfold Oper.wp execOp
  simp only [ho, resolve, hfn, hx, hy, Sem.run_bind, List.map_toArray, List.map_cons, List.map_nil]
  simp only [Deferred.ofValue, invoke, Sem.run_pure, Result.andThen_ok, Array.append_empty, he]
  refine hc.mono ?_
  rintro e w' ⟨z, rfl, hz⟩
  exact h z w' hz

structure Mt where
  k : Int
  n : ByteArray
  v : ByteArray
def Mt.val (m : Mt) : Value := .agg #[.int .i64 m.k, .string m.n, .string m.v]
def isL (ls : List Lb) (m : Mt) : Bool := if m.k = 1 then (getL ls m.n).toList == m.v.toList else if m.k = 2 then !((getL ls m.n).toList == m.v.toList) else false

set_option maxRecDepth 100000 in
set_option maxHeartbeats 1500000 in
theorem refIs_any (v : Value) (ls : List Lb) (m : Mt) (w : World) (h : LabsAt w v ls) (hl : ls.length ≤ 1000000) :
    Calls Tryd.prog 43 #[v, m.val] w fun e w' => e = .returned (.bool (isL ls m)) ∧ Below w.heap.size w w' := by
  obtain ⟨k, n, u⟩ := m
  unfold Mt.val isL
  dsimp only
  obtain ⟨a, c, rfl, -, -⟩ := id h
  have hb0 : Below w.heap.size w (w.alloc (.cells #[.int .i64 k, .string n, .string u] 52)) := (Below.refl _ _).alloc (Nat.le_refl _) _
  have hget := fun W (hW : Below w.heap.size w W) => refGet_any _ ls n W (h.below hW) hl
  generalize getL ls n = g at *
  have HG : Hid (∀ W, Below w.heap.size w W → Calls Tryd.prog 29 #[.slice a ls.length c, .string n] W fun e w' => e = .returned (.string g) ∧ w' = W) := hget
  have HB : Hid (∀ q, Below w.heap.size w ((w.alloc (.cells #[.int .i64 k, .string n, .string u] 52)).drewN q)) := fun q => below_drewN hb0 q
  clear hget h hb0
  by_cases h1 : k = 1
  · subst h1
    go_enter Tryd.func43, Tryd.ntmps43
    go_wp2
    go_quiet (first | (go_at_call 29; exact Calls.quiet_of_same (HG.out _ (HB.out _))))
    go_wp2
    go_ret
    exact ⟨rfl, HB.out _⟩
  · by_cases h2 : k = 2
    · subst h2
      go_enter Tryd.func43, Tryd.ntmps43
      go_wp2
      go_quiet (first | (go_at_call 29; exact Calls.quiet_of_same (HG.out _ (HB.out _))))
      go_wp2
      go_ret
      exact ⟨rfl, HB.out _⟩
    · rw [if_neg h1, if_neg h2]
      have HB0 := HB.out 0
      go_enter Tryd.func43, Tryd.ntmps43
      go_wp2
      go_ret
      exact ⟨rfl, HB0⟩

set_option maxRecDepth 100000 in
set_option maxHeartbeats 1500000 in
theorem is_any (v : Value) (ls : List Lb) (m : Mt) (w : World) (h : LabsAt w v ls) (hl : ls.length ≤ 1000000) :
    Calls Tryd.prog 42 #[v, m.val] w fun e w' => e = .returned (.bool (isL ls m)) ∧ Below w.heap.size w w' := by
  obtain ⟨k, n, u⟩ := m
  unfold Mt.val isL
  dsimp only
  obtain ⟨a, c, rfl, -, -⟩ := id h
  have hb0 : Below w.heap.size w (w.alloc (.cells #[.int .i64 k, .string n, .string u] 52)) := (Below.refl _ _).alloc (Nat.le_refl _) _
  have hbd : Below w.heap.size w (w.alloc (.cells #[.int .i64 k, .string n, .string u] 52)).drew := hb0.drew
  have hget := get_any _ ls n _ (h.below hbd) hl
  generalize getL ls n = g at *
  have HG : Hid (Calls Tryd.prog 28 #[.slice a ls.length c, .string n] ((w.alloc (.cells #[.int .i64 k, .string n, .string u] 52)).drew) fun e w' => ∃ z, e = .returned z ∧ z = .string g ∧ Below w.heap.size w w' ∧ w'.cell? ⟨w.heap.size, 2, none⟩ = some (.string u)) := hget.mono fun e w' ⟨he, hb⟩ => ⟨_, he, rfl, hbd.trans (hb.mono hbd.size), by
    rw [hb.cell (p := ⟨w.heap.size, 2, none⟩) (by simp)]
    exact World.news_of_block (heap_alloc_new w _) 2 _ rfl⟩
  have heG : ∀ args w, (callFunc 28 args).run Tryd.prog w = .ok (.enter 28 args) w := enters_of Tryd.func28 (by kernel_rfl) rfl
  have HB0 : Hid (Below w.heap.size w (w.alloc (.cells #[.int .i64 k, .string n, .string u] 52))) := hb0
  clear hget h hb0 hbd
  by_cases h1 : k = 1
  · subst h1
    go_enter Tryd.func42, Tryd.ntmps42
    go_wp2_with fail
    go_region_law (first | (refine step_call2 _ (by rfl) 28 _ _ _ _ (by rfl) _ _ (by rfl) (by rfl) heG _ HG.out ?_; rintro z w2 ⟨rfl, hb2, hc2⟩))
    all_goals
      go_wp2
      go_ret
      exact ⟨rfl, hb2⟩
  · by_cases h2 : k = 2
    · subst h2
      go_enter Tryd.func42, Tryd.ntmps42
      go_wp2_with fail
      go_region_law (first | (refine step_call2 _ (by rfl) 28 _ _ _ _ (by rfl) _ _ (by rfl) (by rfl) heG _ HG.out ?_; rintro z w2 ⟨rfl, hb2, hc2⟩))
      all_goals
        go_wp2
        go_ret
        exact ⟨rfl, hb2⟩
    · rw [if_neg h1, if_neg h2]
      go_enter Tryd.func42, Tryd.ntmps42
      go_wp2
      go_ret
      exact ⟨rfl, HB0.out⟩

end Go.Proofs.YtcpoknmachphnaaDoor
