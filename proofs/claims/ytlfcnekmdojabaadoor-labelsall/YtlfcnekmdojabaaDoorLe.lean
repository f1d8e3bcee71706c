/- each: a set's labels, one by one. -/
import Derived.RangeFuncNested
import Derived.RangeFuncBound
import Derived.RangeFuncCalls
import Derived.RangeFuncLeaves
import Derived.RangeFuncBox
import Derived.Shelf.Abstract
import Derived.Shelf.RegionOpen
import Derived.OwnWalkIn
import Derived.TacticsInMore
import Derived.LoopNIn
import Derived.LoopIn
import Derived.Test.YtlfcnekmdojabaaDoorL6
namespace Go.Proofs.YtlfcnekmdojabaaDoor
open Go.RowKit Go.Shelf
attribute [local go_sem] Oper.semAt_some

def encP (x : Lb) : Array Value := #[.string x.1, .string x.2]

set_option maxRecDepth 100000 in
set_option maxHeartbeats 2000000 in
theorem each1_in {α : Type} (f : α → Lb) (F : Fence) (n : Nat) (h7 : F.fn 18) (hro : F.round = none) (hn : 1 ≤ n) (l Bs : Nat) (w0 : World) (v : Value) (xs : List α) (ls : List Lb) (hls : xs.map f = ls) (hL : LabsAt w0 v ls) (hlen : ls.length ≤ 1000000) (J Jx : List α → World → Prop) (W : World) (hJ : AbidesFrom W.heap.size J)
    (hY : ∀ pre x W, J pre W → pre.length < ls.length → YieldAt F (n - 1) Tryd.prog l (encP (f x)) W fun e W' =>
      (e = .returned (.bool true) ∧ J (pre ++ [x]) W' ∧ Below w0.heap.size W W') ∨ (e = .returned (.bool false) ∧ Jx (pre ++ [x]) W'))
    (hbW : Below w0.heap.size w0 W) (hBs : W.cell? ⟨Bs, 0, none⟩ = some v) (h0 : J [] W) :
    CallsIn F n Tryd.prog 18 #[.func (.yield l) #[] #[], .pointer (some ⟨Bs, 0, none⟩)] W fun e W' => (∃ v, e = .returned v) ∧
      ((∃ ys, ys = xs ∧ J ys W') ∨ (∃ pre, pre <+: xs ∧ Jx pre W')) := by
  obtain ⟨a, c, rfl, hlc, -⟩ := id hL
  have HL : Hid (LabsAt w0 (.slice a ls.length c) ls) := hL
  have HLS : Hid (xs.map f = ls) := hls
  have hll : xs.length = ls.length := by rw [← hls]; simp
  have HJ : Hid (∀ s A o, J s A → J s (A.alloc o)) := fun s A o hs => hJ s A _ none hs (World.grownBy_alloc A o none) (fun r e => by cases e)
  have HY : Hid (∀ pre x W, J pre W → pre.length < ls.length → YieldAt F (n - 1) Tryd.prog l (encP (f x)) W fun e W' =>
      (e = .returned (.bool true) ∧ J (pre ++ [x]) W' ∧ Below w0.heap.size W W') ∨ (e = .returned (.bool false) ∧ Jx (pre ++ [x]) W')) := hY
  have HB : Hid (Below w0.heap.size w0 W) := hbW
  clear hL hJ hY hbW hls
  refine callsIn_of_wp Tryd.func18 rfl h7 ?_ hro
  simp only [Tryd.ntmps18, List.size_toArray, List.length_cons, List.length_nil, Nat.reduceAdd, Nat.reduceSub, Array.replicate_succ, Array.replicate_zero, List.push_toArray, List.append_toArray, List.nil_append, List.cons_append]
  gi_wp2
  gi_loopw [7] (fun i wr => ∃ k : Nat, k ≤ ls.length ∧ i = .int .i64 k ∧ Hid (J (xs.take k) wr) ∧ Hid (Below w0.heap.size w0 wr))
    (fun i _ => ls.length - (intOf i).toNat)
  case atStart => exact ⟨0, Nat.zero_le _, rfl, h0, HB⟩
  case round =>
    obtain ⟨k, hk, rfl, hJs, hnx⟩ := hrel
    by_cases hlt : k < ls.length
    · obtain ⟨b, o, rfl, hone⟩ := HL.out.one k hlt
      obtain ⟨g0, g1⟩ := hone wr hnx.out
      clear hone
      have hltx : k < xs.length := by omega
      obtain ⟨z, hz⟩ : ∃ z, z = xs[k] := ⟨_, rfl⟩
      have hfz : f z = ls[k] := by
        have : ls[k] = f xs[k] := by
          have h9 := HLS.out
          subst h9
          simp
        rw [hz, this]
      obtain ⟨x, hx⟩ : ∃ x, x = (f z).1 := ⟨_, rfl⟩
      obtain ⟨y, hy⟩ : ∃ y, y = (f z).2 := ⟨_, rfl⟩
      rw [← hfz, ← hx] at g0
      rw [← hfz, ← hy] at g1
      have HX : Hid (xs.take (k + 1) = xs.take k ++ [z]) := by
        show _ = _
        rw [List.take_succ_eq_append_getElem hltx, hz]
      clear hfz hz
      have hpl : (xs.take k).length < ls.length := by simp; omega
      have hbA : Below w0.heap.size w0 (wr.alloc (.cells #[.string x, .string y] 28 (0, 0))) := hnx.out.alloc hnx.out.size _
      obtain ⟨fn, tmps, assign, body, hyy, hR⟩ := HY.out _ z (wr.alloc (.cells #[.string x, .string y] 28 (0, 0))) (HJ.out _ _ _ hJs.out) hpl
      dsimp only [encP] at hyy hR
      rw [← hx, ← hy] at hyy
      have HBA : Hid (Below w0.heap.size w0 (wr.alloc (.cells #[.string x, .string y] 28 (0, 0)))) := hbA
      clear hbA hx hy
      gi_wp2
      refine hR.mono ?_
      rintro e W3 (⟨rfl, hJ3, hk3⟩ | ⟨rfl, hJx3⟩)
      · gi_wp2
        go_roundw
        case rel => exact ⟨k + 1, by omega, by go_num, by show J _ _; rw [HX.out]; exact hJ3, HBA.out.trans hk3⟩
        case measure => simp [intOf]; omega
      · gi_wp2
        refine bodyPost_ret (results_none rfl _ _ _) rfl ?_
        exact ⟨⟨_, rfl⟩, .inr ⟨_, by rw [← HX.out]; exact List.take_prefix _ _, hJx3⟩⟩
    · have hJe : Hid (J xs wr) := by
        have := hJs.out
        rw [List.take_of_length_le (by omega)] at this
        exact this
      clear hJs
      gi_wp2
      go_end0
      exact ⟨⟨_, rfl⟩, .inl ⟨_, rfl, hJe.out⟩⟩

set_option maxHeartbeats 1000000 in
theorem each_in (F : Fence) (n : Nat) (h5 : F.fn 10) (hro : F.round = none) (a : Option Addr) (len cap : Nat) (w : World) :
    CallsIn F n Tryd.prog 10 #[.slice a len cap] w fun e w' => e = .returned (.func (.func 18) #[] #[.pointer (some ⟨w.heap.size, 0, none⟩)]) ∧ w' = w.alloc (.cells #[.slice a len cap] 22) := by
  refine callsIn_of_wp Tryd.func10 rfl h5 ?_ hro
  simp only [Tryd.ntmps10, List.size_toArray, List.length_cons, List.length_nil, Nat.reduceAdd, Nat.reduceSub, Array.replicate_succ, Array.replicate_zero, List.push_toArray, List.append_toArray, List.nil_append, List.cons_append]
  gi_wp2
  go_ret
  exact ⟨rfl, rfl⟩

/-- What each hands back, ranged over: all labels in order, or a beginning of them. -/
theorem each_stops {α : Type} (f : α → Lb) (F : Fence) (n : Nat) (h7 : F.fn 18) (hro : F.round = none) (hn : 1 ≤ n) (Bs : Nat) (w0 : World) (v : Value) (xs : List α) (ls : List Lb) (hls : xs.map f = ls) (hL : LabsAt w0 v ls) (hlen : ls.length ≤ 1000000) (w : World) (hb : Below w0.heap.size w0 w) (hBs : Bs < w.heap.size) (hc : w.cell? ⟨Bs, 0, none⟩ = some v) :
    SeqStopsK F n Tryd.prog 18 #[.pointer (some ⟨Bs, 0, none⟩)] (fun x => encP (f x)) (Below w0.heap.size) (fun ys => ys = xs) (fun pre => pre <+: xs) ls.length w := fun l J Jx W hW hJ _ hY h0 =>
  each1_in f F n h7 hro hn l Bs w0 v xs ls hls hL hlen J Jx W hJ hY (hb.trans (hW.mono hb.size)) ((hW.cell (p := ⟨Bs, 0, none⟩) hBs).trans hc) h0

end Go.Proofs.YtlfcnekmdojabaaDoor
