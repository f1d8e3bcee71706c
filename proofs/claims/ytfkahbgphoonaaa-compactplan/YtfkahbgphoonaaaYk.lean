/- slices.Values of one series; what it tells. -/
import Derived.Test.YtfkahbgphoonaaaYr
import Derived.Test.YtfkahbgphoonaaaYh
namespace Go.Proofs.Ytfkahbgphoonaaa
open Go.RowKit Go.Shelf Go.Maps
attribute [local go_sem] Oper.semAt_some

set_option maxRecDepth 100000 in
set_option maxHeartbeats 2000000 in
theorem values1_tells (Bs : Nat) (v vl vs : Value) (z : Ser) (W0 : World) (hBs : Bs < W0.heap.size) (hc : W0.cell? ⟨Bs, 0, none⟩ = some v) (h : RowAt W0 v 2 1 [vl, vs]) (h1 : LbAt W0 vl z.1) (h2 : SmAt W0 vs z.2) (h3 : ∀ b, blkOf vl = some b → b < W0.heap.size) (h4 : ∀ b, blkOf vs = some b → b < W0.heap.size) :
    Tells1 Try.prog 42 #[.pointer (some ⟨Bs, 0, none⟩)] z W0 False := by
  intro l W R hW hRa hY
  have cW : W.cell? ⟨Bs, 0, none⟩ = some v := (hW.cell (p := ⟨Bs, 0, none⟩) hBs).trans hc
  have h := RowAt.below h hW
  have h1 := RowAt.below h1 hW
  have h2 := RowAt.below h2 hW
  obtain ⟨a, c, rfl, -⟩ := id h
  obtain ⟨b, o, e, q0⟩ := RowAt.one h (j := 0) rfl
  subst e
  obtain ⟨b', o', e, q1⟩ := RowAt.one h (j := 1) rfl
  cases e
  have q0 := q0 W (Below.refl _ _)
  have q1 := q1 W (Below.refl _ _)
  rw [Nat.add_zero] at q0
  have hal : Below W.heap.size W (W.alloc (.cells #[vl, vs] 56)) := (Below.refl _ _).alloc (Nat.le_refl _) _
  obtain ⟨fn, tmps, assign, body, hyy, hR⟩ := yieldAt_anyDepth (F := Fence.wide) rfl 9 (hY (W.alloc (.cells #[vl, vs] 56)) vl vs hal ⟨RowAt.below h1 hal, RowAt.below h2 hal, Or.inr ⟨h3, h4⟩⟩)
  obtain ⟨a1, c1, rfl, -⟩ := id h1
  obtain ⟨a2, c2, rfl, -⟩ := id h2
  have HRA : Hid _ := hRa
  have HAL : Hid _ := hal
  clear hRa hY hW h h1 h2 h3 h4 hc hal
  refine (callsIn_wide (n := 10)).1 ?_
  refine callsIn_of_wp Try.func42 rfl trivial ?_ rfl
  simp only [Try.ntmps42, List.size_toArray, List.length_cons, List.length_nil, Nat.reduceAdd, Nat.reduceSub, Array.replicate_succ, Array.replicate_zero, List.push_toArray, List.append_toArray, List.nil_append, List.cons_append]
  gi_wp2
  gi_loopw [7] (fun i wr => (i = .int .i64 0 ∧ wr = W) ∨ (i = .int .i64 1 ∧ Hid (R (W.alloc (.cells #[.slice a1 z.1.length c1, .slice a2 z.2.length c2] 56)) wr))) (fun i _ => 1 - (intOf i).toNat)
  case atStart => exact Or.inl ⟨rfl, rfl⟩
  case round =>
    rcases hrel with ⟨rfl, rfl⟩ | ⟨rfl, hrel⟩
    · gi_wp2
      refine hR.mono ?_
      rintro e W3 ⟨rfl, hk3, hr3⟩
      gi_wp2
      go_roundw
      case rel => exact Or.inr ⟨by go_num, hr3⟩
      case measure => simp [intOf]
    · gi_wp2
      go_end0
      exact ⟨⟨_, rfl⟩, _, HAL.out, hrel.out⟩

set_option maxHeartbeats 1000000 in
theorem values_any (a : Option Addr) (len cap : Nat) (w : World) :
    Calls Try.prog 32 #[.slice a len cap] w fun e w' => e = .returned (.func (.func 42) #[] #[.pointer (some ⟨w.heap.size, 0, none⟩)]) ∧ w' = w.alloc (.cells #[.slice a len cap] 57) := by
  go_enter Try.func32, Try.ntmps32
  go_wp2
  go_ret
  exact ⟨rfl, rfl⟩

set_option maxHeartbeats 1000000 in
theorem both_any (f1 f2 : Value) (g1 g2 : Nat) (l1 l2 : Array Value) (w : World) (e1 : f1 = .func (.func g1) #[] l1) (e2 : f2 = .func (.func g2) #[] l2) :
    Calls Try.prog 48 #[f1, f2] w fun e w' => e = .returned (.func (.func 68) #[] #[.pointer (some ⟨w.heap.size + 1, 0, none⟩), .pointer (some ⟨w.heap.size, 0, none⟩)]) ∧ w' = (w.alloc (.cells #[f1] 59)).alloc (.cells #[f2] 59) := by
  subst e1 e2
  go_enter Try.func48, Try.ntmps48
  go_wp2
  go_ret
  exact ⟨rfl, rfl⟩

end Go.Proofs.Ytfkahbgphoonaaa
