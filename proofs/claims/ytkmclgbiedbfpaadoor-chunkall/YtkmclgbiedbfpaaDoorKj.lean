/- each, bytes.Equal. -/
import Derived.Test.YtkmclgbiedbfpaaDoorKi
namespace Go.Proofs.YtkmclgbiedbfpaaDoor
open Go.RowKit Go.Shelf Go.Maps
attribute [local go_sem] Oper.semAt_some

set_option maxRecDepth 100000 in
set_option maxHeartbeats 1000000 in
theorem each1_short (n : Nat) (l Bs : Nat) (v : Value) (raw : List UInt8) (W : World) (hB : BytesAt W v raw) (hl : raw.length < 2) (J Jx : List Sm → World → Prop) (hJ : AbidesU W.heap.size J) (hBs : W.cell? ⟨Bs, 0, none⟩ = some v) (h0 : J [] W) :
    CallsIn Fence.wide n Tryd.prog 49 #[.func (.yield l) #[] #[], .pointer (some ⟨Bs, 0, none⟩)] W fun e W' => (∃ v, e = .returned v) ∧
      ((∃ ys, ys = decR raw ∧ J ys W') ∨ (∃ pre, pre <+: decR raw ∧ Jx pre W')) := by
  have hparts := parts_short v raw W hB hl
  have HD : Hid (decR raw = []) := by
    show _ = _
    match raw, hl with
    | [], _ => rfl
    | [a], _ => rfl
  have HJ : Hid (AbidesU W.heap.size J) := hJ
  obtain ⟨a, c, rfl, -, -, -⟩ := id hB
  generalize raw.length = lv at *
  refine callsIn_wide.2 ?_
  clear hB hJ
  go_enter Tryd.func49, Tryd.ntmps49
  go_wp2_with (go_at_call 43; refine hparts.mono ?_; clear hparts; rintro e w1 ⟨rfl, hw1⟩; have hw1 := hw1.symm; subst hw1)
  go_loopw [16] (fun i wr => i = .int .i64 0 ∧ Hid (J [] wr)) (fun _ _ => 0)
  case atStart => exact ⟨rfl, HJ.out [] W _ none h0 (World.grownBy_alloc W _ none) (fun r e => by cases e)⟩
  case round =>
    obtain ⟨rfl, hj⟩ := hrel
    go_wp2
    go_end0
    exact ⟨⟨_, rfl⟩, .inl ⟨_, HD.out.symm, hj.out⟩⟩

set_option maxHeartbeats 1000000 in
theorem each_any (a : Option Addr) (len cap : Nat) (w : World) :
    Calls Tryd.prog 38 #[.slice a len cap] w fun e w' => e = .returned (.func (.func 49) #[] #[.pointer (some ⟨w.heap.size, 0, none⟩)]) ∧ w' = w.alloc (.cells #[.slice a len cap] 24) := by
  go_enter Tryd.func38, Tryd.ntmps38
  go_wp2
  go_ret
  exact ⟨rfl, rfl⟩

/-- What each hands back, at any invariant that minds no unpacker. -/
theorem each_seq (n : Nat) (hn : 1 ≤ n) (Bs : Nat) (w0 w : World) (v : Value) (raw : List UInt8) (hB : BytesAt w0 v raw) (hlen : raw.length ≤ 100000) (hS : Steps w0) (hb : Below w0.heap.size w0 w) (hBs : w.cell? ⟨Bs, 0, none⟩ = some v) (l : Nat) (J Jx : List Sm → World → Prop) (W : World) (hbW : Below w.heap.size w W) (hJ : AbidesU W.heap.size J)
    (hY : ∀ pre z W, J pre W → pre.length < 65536 → YieldAt Fence.wide (n - 1) Tryd.prog l (encP z) W fun e W' =>
      (e = .returned (.bool true) ∧ J (pre ++ [z]) W' ∧ KeepU w0 W W') ∨ (e = .returned (.bool false) ∧ Jx (pre ++ [z]) W')) (h0 : J [] W) :
    CallsIn Fence.wide n Tryd.prog 49 (#[.func (.yield l) #[] #[]] ++ #[.pointer (some ⟨Bs, 0, none⟩)]) W fun e W' => (∃ v, e = .returned v) ∧
      ((∃ ys, ys = decR raw ∧ J ys W') ∨ (∃ pre, pre <+: decR raw ∧ Jx pre W')) := by
  have hb2 : Below w0.heap.size w0 W := hb.trans (hbW.mono hb.size)
  have hc : W.cell? ⟨Bs, 0, none⟩ = some v := (hbW.cell (p := ⟨Bs, 0, none⟩) (cell_lt hBs)).trans hBs
  match raw, hB, hlen with
  | [], hB, _ => exact each1_short n l Bs v [] W (hB.below hb2) (by simp) J Jx hJ hc h0
  | [a], hB, _ => exact each1_short n l Bs v [a] W (hB.below hb2) (by simp) J Jx hJ hc h0
  | x :: y :: t, hB, hlen => exact each1_long n hn l Bs w0 v x y t hB (by simp at hlen; omega) hS J Jx W hJ hY hb2 hc h0

set_option maxRecDepth 100000 in
set_option maxHeartbeats 1000000 in
theorem equal_any (v u : Value) (xs bs : List UInt8) (w : World) (h1 : BytesAt w v xs) (h2 : BytesAt w u bs) :
    Calls Tryd.prog 39 #[v, u] w fun e w' => e = .returned (.bool (decide (xs = bs))) ∧ w' = w := by
  have hA := h1.str
  have hB := h2.str
  obtain ⟨a, c, rfl, -, -, -⟩ := id h1
  obtain ⟨a2, c2, rfl, -, -, -⟩ := id h2
  clear h1 h2
  generalize xs.length = n1 at *
  generalize bs.length = n2 at *
  go_enter Tryd.func39, Tryd.ntmps39
  go_wp2
  go_ret
  exact ⟨ret_b (by rw [Bool.eq_iff_iff]; simp), rfl⟩

end Go.Proofs.YtkmclgbiedbfpaaDoor
