/- each: samples told one by one. -/
import Derived.RangeFuncNested
import Derived.RangeFuncBound
import Derived.RangeFuncCalls
import Derived.RangeFuncLeaves
import Derived.RangeFuncBox
import Derived.Shelf.Abstract
import Derived.Shelf.RegionOpen
import Derived.OwnWalkIn
import Derived.TacticsInMore
import Derived.LoopNIn
import Derived.LoopIn
import Derived.Stop.RegionWithIn
import Derived.BigRegionIn
import Derived.Test.YtkmclgbiedbfpaaDoorKg
namespace Go.Proofs.YtkmclgbiedbfpaaDoor
open Go.RowKit Go.Shelf Go.Maps
attribute [local go_sem] Oper.semAt_some

theorem drewN_size (w : World) (k : Nat) : (w.drewN k).heap.size = w.heap.size := by
  induction k with
  | zero => rfl
  | succ k ih => exact ih
theorem grown_drewN (w : World) (k : Nat) : w.grownBy (w.drewN k) none := by
  have h := (Kept.refl (fun _ => False) w).drewN k
  exact ⟨h.os, h.tape, h.output, h.size, fun i hi _ => h.block i hi (fun e => e)⟩
theorem if_skip {c : Bool} {A B : Prop} (hc : c = false) (hB : B) : if c = true then A else B := by
  subst hc
  exact hB
section
variable {F : Fence} {n : Nat} {P : Program} {md : Region.Mode} {ops : Array Oper} {Q : Exit → Act → World → Prop} {oi : Oper} {v : Value} {fuel : Nat} {listed : Array Bool} {a : Act} {w : World}
theorem takeD {i : Nat} (d : Nat) (hro : F.round = none) (hi : ops[i]? = some oi) (hd : oi.dst = some d) (hs : Region.noSelect ops = true) (hf : Region.free md ops listed i = true) (hr : (Region.ready md ops listed).contains i = true)
    (hQ : ∀ c a w, Q (.panic c) (a.put oi.dst v) w → Q (.panic c) a w) (hy : YieldsFenced P ops oi v a)
    (h : wpAnyIn F n P md ops Q fuel (listed.setIfInBounds i true) (a.put (some d) v) w) : wpAnyIn F n P md ops Q (fuel + 1) listed a w :=
  wpAnyIn_take hro hi hs hf hr hQ hy (by rw [hd]; exact h)
theorem passD {i : Nat} (d : Nat) (hr : Region.ready md ops listed = [i]) (hi : ops[i]? = some oi) (hd : oi.dst = some d) (hw : Region.wanted oi (yielded ops a.tmps) = false) (hfn : ∀ f, oi.about P w a.eval = some f → F.fn f)
    (h : wpAnyIn F n P md ops Q fuel (listed.setIfInBounds i true) (a.put (some d) undef) w) : wpAnyIn F n P md ops Q (fuel + 1) listed a w :=
  wpAnyIn_ready hr (by simp) (AllReadyIn.cons hi (fun K hK => if_skip hw ⟨hfn, hK _ _ (by rw [hd]; exact h)⟩) AllReadyIn.nil)
end
/-- An invariant that minds neither new blocks nor an unpacker that is turned. -/
def AbidesU (B : Nat) (J : List Sm → World → Prop) : Prop := ∀ s W W' row, J s W → W.grownBy W' row → (∀ r, row = some r → B ≤ r ∧ ∃ cs fr, W.heap[r]? = some (Obj.cells cs 93 fr)) → J s W'
theorem Kept.grownU {U : Nat} {w w' : World} (h : Kept (fun k => k = U) w w') : w.grownBy w' (some U) := ⟨h.os, h.tape, h.output, h.size, fun i hi hne => h.block i hi (fun e => hne (by rw [e]))⟩

set_option maxRecDepth 100000 in
set_option maxHeartbeats 2000000 in
theorem each1_long (n : Nat) (hn : 1 ≤ n) (l Bs : Nat) (w0 : World) (v : Value) (x y : UInt8) (t : List UInt8) (hB : BytesAt w0 v (x :: y :: t)) (hlen : t.length ≤ 100000) (hS : Steps w0) (J Jx : List Sm → World → Prop) (W : World) (hJ : AbidesU W.heap.size J)
    (hY : ∀ pre z W, J pre W → pre.length < 65536 → YieldAt Fence.wide (n - 1) Tryd.prog l (encP z) W fun e W' =>
      (e = .returned (.bool true) ∧ J (pre ++ [z]) W' ∧ KeepU w0 W W') ∨ (e = .returned (.bool false) ∧ Jx (pre ++ [z]) W'))
    (hbW : Below w0.heap.size w0 W) (hBs : W.cell? ⟨Bs, 0, none⟩ = some v) (h0 : J [] W) :
    CallsIn Fence.wide n Tryd.prog 49 #[.func (.yield l) #[] #[], .pointer (some ⟨Bs, 0, none⟩)] W fun e W' => (∃ v, e = .returned v) ∧
      ((∃ ys, ys = decR (x :: y :: t) ∧ J ys W') ∨ (∃ pre, pre <+: decR (x :: y :: t) ∧ Jx pre W')) := by
  have hparts := parts_any v x y t W (hB.below hbW) (by omega)
  have HJ : Hid (AbidesU W.heap.size J) := hJ
  have HY : Hid (∀ pre z W, J pre W → pre.length < 65536 → YieldAt Fence.wide (n - 1) Tryd.prog l (encP z) W fun e W' =>
      (e = .returned (.bool true) ∧ J (pre ++ [z]) W' ∧ KeepU w0 W W') ∨ (e = .returned (.bool false) ∧ Jx (pre ++ [z]) W')) := hY
  have HBW : Hid (Below w0.heap.size w0 W) := hbW
  have HST : Hid (Steps w0) := hS
  obtain ⟨cnt, hcnt⟩ : ∃ cnt, cnt = x.toNat * 256 + y.toNat := ⟨_, rfl⟩
  have hcl : cnt < 65536 := by
    have := x.toNat_lt
    have := y.toNat_lt
    omega
  have HD : Hid (decR (x :: y :: t) = decL cnt true An.zero (ub t)) := by show _ = _; rw [hcnt]; rfl
  rw [← hcnt] at hparts
  have HB0 : Hid (BytesAt w0 v (x :: y :: t)) := hB
  obtain ⟨a, c, rfl, -, -, -⟩ := id hB
  clear hJ hY hbW hB hcnt hS
  refine callsIn_of_wp Tryd.func49 rfl trivial ?_ rfl
  simp only [Tryd.ntmps49, List.size_toArray, List.length_cons, List.length_nil, Nat.reduceAdd, Nat.reduceSub, Array.replicate_succ, Array.replicate_zero, List.push_toArray, List.append_toArray, List.nil_append, List.cons_append]
  have tP : Fence.wide.fn 43 := trivial
  have tN : Fence.wide.fn 50 := trivial
  have tF : Fence.wide.fn 41 := trivial
  gi_wp2_with (gi_at_call 43; refine (callsIn_wide.2 hparts).mono ?_; clear hparts; rintro e w1 ⟨v1, rfl, hbf, k1, hw1⟩; have HW1 : Hid (w1 = W.drewN k1) := hw1; clear hw1; have hb1 := hbf w0 HB0.out; clear hbf; obtain ⟨a1, c1, rfl, -, -, -⟩ := id hb1; have HB1 : Hid (BytesAt w0 (.slice a1 t.length c1) t) := hb1; clear hb1)
  have hw1 := HW1.out
  have hsz1 : w1.heap.size = W.heap.size := by rw [hw1]; exact drewN_size W k1
  have hb01 : Below w0.heap.size w0 w1 := by rw [hw1]; exact below_drewN HBW.out k1
  have hr1 : Rd (w1.alloc (.cells #[.slice a1 t.length c1, .int .i64 0, .int .u64 0, .int .u64 0, .int .u64 0, .int .i64 0, .int .i64 0] 93)) w1.heap.size (.slice a1 t.length c1) t 0 An.zero := by
    have hby : BytesAt w1 (.slice a1 t.length c1) t := HB1.out.below hb01
    exact ⟨heap_alloc_new w1 _, hby.below ((Below.refl _ _).alloc (Nat.le_refl _) _), by omega, by omega⟩
  have hj1 : J [] (w1.alloc (.cells #[.slice a1 t.length c1, .int .i64 0, .int .u64 0, .int .u64 0, .int .u64 0, .int .i64 0, .int .i64 0] 93)) := by
    have hjw : J [] w1 := HJ.out [] W w1 none h0 (by rw [hw1]; exact grown_drewN W k1) (fun r e => by cases e)
    exact HJ.out [] w1 _ none hjw (World.grownBy_alloc w1 _ none) (fun r e => by cases e)
  have hbA : Below w0.heap.size w0 (w1.alloc (.cells #[.slice a1 t.length c1, .int .i64 0, .int .u64 0, .int .u64 0, .int .u64 0, .int .i64 0, .int .i64 0] 93)) := hb01.alloc hb01.size _
  have hU1 : w1.heap.size ≠ 1 := by
    have h1 := cell_lt HST.out.1
    have h2 := hb01.size
    have h3 : (1 : Nat) < w0.heap.size := h1
    omega
  have hUW : W.heap.size ≤ w1.heap.size := by omega
  generalize w1.alloc (.cells #[.slice a1 t.length c1, .int .i64 0, .int .u64 0, .int .u64 0, .int .u64 0, .int .i64 0, .int .i64 0] 93) = W1 at *
  generalize w1.heap.size = U at *
  have HR1 : Hid (Rd W1 U (.slice a1 t.length c1) t 0 An.zero) := hr1
  have HJ1 : Hid (J [] W1) := hj1
  have HBA : Hid (Below w0.heap.size w0 W1) := hbA
  clear hr1 hj1 hbA hw1 HW1 hb01 hsz1 h0 hBs HB0
  gi_loopw [16] (fun i wr => ∃ (k p : Nat) (s : An) (pre : List Sm), k ≤ cnt ∧ i = .int .i64 k ∧ Hid (Rd wr U (.slice a1 t.length c1) t p s ∧ Good s ∧ Below w0.heap.size w0 wr ∧ pre.length = k ∧ J pre wr ∧ decR (x :: y :: t) = pre ++ decL (cnt - k) (decide (k = 0)) s ((ub t).drop p))) (fun i _ => cnt - (intOf i).toNat)
  case atStart => exact ⟨0, 0, An.zero, [], Nat.zero_le _, rfl, HR1.out, Good.zero, HBA.out, rfl, HJ1.out, HD.out⟩
  case round =>
    obtain ⟨k, p, s, pre, hk, rfl, hI⟩ := hrel
    clear HR1 HJ1 HBA HD
    obtain ⟨hrd, hgd, hbl, hpl, hj, hdec⟩ := hI.out
    by_cases hlt : k < cnt
    · have hcnt : cnt - k = (cnt - k - 1) + 1 := by omega
      have hst : Steps wr := HST.out.below hbl (cell_lt HST.out.1)
      obtain ⟨fb, hfb⟩ : ∃ fb, fb = decide (k = 0) := ⟨_, rfl⟩
      rw [← hfb] at hdec
      have hki : ((k : Int) == 0) = fb := by rw [hfb]; by_cases h9 : k = 0 <;> simp [h9]
      have hnext := fun (W : World) (h9 : Rd W U (.slice a1 t.length c1) t p s) (h8 : Steps W) => next_any W U (.slice a1 t.length c1) t p s fb h9 hgd h8 hU1
      have HRD : Hid (Rd wr U (.slice a1 t.length c1) t p s) := hrd
      have HBL : Hid (Below w0.heap.size w0 wr) := hbl
      have HJP : Hid (J pre wr) := hj
      have HSTW : Hid (Steps wr) := hst
      clear hI hrd hbl hj hst hfb
      cases hnx : nextD fb s ((ub t).drop p) with
      | none =>
        rw [decL_none hnx, List.append_nil] at hdec
        rw [hnx] at hnext
        have HDEC : Hid (decR (x :: y :: t) = pre) := hdec
        have HNX : Hid (∀ W, Rd W U (.slice a1 t.length c1) t p s → Steps W → Calls Tryd.prog 50 #[.pointer (some ⟨U, 0, none⟩), .bool fb] W fun e w' => Says W U (.slice a1 t.length c1) t none e w') := hnext
        clear hnext hdec hnx hgd
        gi_wp2
        refine wpIn_region_any (by kernel_rfl) ?_
        change wpAnyIn _ _ _ _ _ _ _ _ _ (World.drew _)
        refine takeD (i := 0) (v := ?_) 19 rfl rfl rfl (by kernel_rfl) (by kernel_rfl) (by kernel_rfl) (fun _ _ _ h => h) ⟨Or.inl ⟨by rfl, ?_⟩, fun _ => rfl⟩ ?_
        rotate_left
        focus (intro w; go_simp; try (with_reducible rfl))
        (try dsimp only)
        (try simp only [Act.put, List.setIfInBounds_toArray, List.set_cons_zero, List.set_cons_succ])
        refine takeD (i := 1) (v := ?_) 20 rfl rfl rfl (by kernel_rfl) (by kernel_rfl) (by kernel_rfl) (fun _ _ _ h => h) ⟨Or.inl ⟨by rfl, ?_⟩, fun _ => rfl⟩ ?_
        rotate_left
        focus (intro w; go_simp; try (with_reducible rfl))
        (try dsimp only)
        (try simp only [Act.put, List.setIfInBounds_toArray, List.set_cons_zero, List.set_cons_succ])
        refine wpAnyIn_ready (rs := [2]) (by kernel_rfl) (by simp) ?_
        refine AllReadyIn.cons rfl (fun K hK => ?_) AllReadyIn.nil
        go_simp
        gi_wp2_with (gi_at_call 50; refine (callsIn_wide.2 (HNX.out _ (HRD.out.kept ((Kept.refl (fun k => k = U) wr).drewN 1) HRD.out.un HRD.out.le) HSTW.out)).mono ?_; rintro e w2 ⟨b2, p2, s2, rfl, hr2, hk2, hn2, -⟩; obtain rfl := hn2 rfl; have HK2 : Hid (Kept (fun k => k = U) wr w2) := keptU ((Kept.refl (fun k => k = U) wr).drewN 1) hk2; clear hr2 hk2 hn2)
        try (refine hK _ _ ?_; clear hK K)
        (try dsimp only)
        (try simp only [Act.put, List.setIfInBounds_toArray, List.set_cons_zero, List.set_cons_succ])
        refine takeD (i := 3) (v := ?_) 22 rfl rfl rfl (by kernel_rfl) (by kernel_rfl) (by kernel_rfl) (fun _ _ _ h => h) ⟨Or.inl ⟨by rfl, ?_⟩, fun _ => rfl⟩ ?_
        rotate_left
        focus (intro w; go_simp; try (with_reducible rfl))
        (try dsimp only)
        (try simp only [Act.put, List.setIfInBounds_toArray, List.set_cons_zero, List.set_cons_succ])
        refine takeD (i := 4) (v := ?_) 23 rfl rfl rfl (by kernel_rfl) (by kernel_rfl) (by kernel_rfl) (fun _ _ _ h => h) ⟨Or.inl ⟨by rfl, ?_⟩, fun _ => rfl⟩ ?_
        rotate_left
        focus (intro w; go_simp; try (with_reducible rfl))
        (try dsimp only)
        (try simp only [Act.put, List.setIfInBounds_toArray, List.set_cons_zero, List.set_cons_succ])
        refine takeD (i := 5) 24 rfl rfl rfl (by kernel_rfl) (by kernel_rfl) (by kernel_rfl) (fun _ _ _ h => h) ⟨Or.inr ⟨by kernel_rfl, rfl⟩, fun _ => rfl⟩ ?_
        (try dsimp only)
        (try simp only [Act.put, List.setIfInBounds_toArray, List.set_cons_zero, List.set_cons_succ])
        refine takeD (i := 6) 25 rfl rfl rfl (by kernel_rfl) (by kernel_rfl) (by kernel_rfl) (fun _ _ _ h => h) ⟨Or.inr ⟨by kernel_rfl, rfl⟩, fun _ => rfl⟩ ?_
        (try dsimp only)
        (try simp only [Act.put, List.setIfInBounds_toArray, List.set_cons_zero, List.set_cons_succ])
        refine takeD (i := 7) 26 rfl rfl rfl (by kernel_rfl) (by kernel_rfl) (by kernel_rfl) (fun _ _ _ h => h) ⟨Or.inr ⟨by kernel_rfl, rfl⟩, fun _ => rfl⟩ ?_
        (try dsimp only)
        (try simp only [Act.put, List.setIfInBounds_toArray, List.set_cons_zero, List.set_cons_succ])
        refine takeD (i := 8) 27 rfl rfl rfl (by kernel_rfl) (by kernel_rfl) (by kernel_rfl) (fun _ _ _ h => h) ⟨Or.inr ⟨by kernel_rfl, rfl⟩, fun _ => rfl⟩ ?_
        (try dsimp only)
        (try simp only [Act.put, List.setIfInBounds_toArray, List.set_cons_zero, List.set_cons_succ])
        refine takeD (i := 9) 28 rfl rfl rfl (by kernel_rfl) (by kernel_rfl) (by kernel_rfl) (fun _ _ _ h => h) ⟨Or.inr ⟨by kernel_rfl, rfl⟩, fun _ => rfl⟩ ?_
        (try dsimp only)
        (try simp only [Act.put, List.setIfInBounds_toArray, List.set_cons_zero, List.set_cons_succ])
        refine takeD (i := 10) 29 rfl rfl rfl (by kernel_rfl) (by kernel_rfl) (by kernel_rfl) (fun _ _ _ h => h) ⟨Or.inr ⟨by kernel_rfl, rfl⟩, fun _ => rfl⟩ ?_
        (try dsimp only)
        (try simp only [Act.put, List.setIfInBounds_toArray, List.set_cons_zero, List.set_cons_succ])
        refine takeD (i := 11) 30 rfl rfl rfl (by kernel_rfl) (by kernel_rfl) (by kernel_rfl) (fun _ _ _ h => h) ⟨Or.inr ⟨by kernel_rfl, rfl⟩, fun _ => rfl⟩ ?_
        (try dsimp only)
        (try simp only [Act.put, List.setIfInBounds_toArray, List.set_cons_zero, List.set_cons_succ])
        refine takeD (i := 12) 31 rfl rfl rfl (by kernel_rfl) (by kernel_rfl) (by kernel_rfl) (fun _ _ _ h => h) ⟨Or.inr ⟨by kernel_rfl, rfl⟩, fun _ => rfl⟩ ?_
        (try dsimp only)
        (try simp only [Act.put, List.setIfInBounds_toArray, List.set_cons_zero, List.set_cons_succ])
        refine passD (i := 13) 32 (by kernel_rfl) rfl rfl (by kernel_rfl) (fun _ _ => trivial) ?_
        (try dsimp only)
        (try simp only [Act.put, List.setIfInBounds_toArray, List.set_cons_zero, List.set_cons_succ])
        refine passD (i := 14) 33 (by kernel_rfl) rfl rfl (by kernel_rfl) (fun _ _ => trivial) ?_
        (try dsimp only)
        (try simp only [Act.put, List.setIfInBounds_toArray, List.set_cons_zero, List.set_cons_succ])
        refine takeD (i := 15) 34 rfl rfl rfl (by kernel_rfl) (by kernel_rfl) (by kernel_rfl) (fun _ _ _ h => h) ⟨Or.inr ⟨by kernel_rfl, rfl⟩, fun _ => rfl⟩ ?_
        (try dsimp only)
        (try simp only [Act.put, List.setIfInBounds_toArray, List.set_cons_zero, List.set_cons_succ])
        refine takeD (i := 16) (v := ?_) 35 rfl rfl rfl (by kernel_rfl) (by kernel_rfl) (by kernel_rfl) (fun _ _ _ h => h) ⟨Or.inl ⟨by rfl, ?_⟩, fun _ => rfl⟩ ?_
        rotate_left
        focus (intro w; go_simp; try (with_reducible rfl))
        (try dsimp only)
        (try simp only [Act.put, List.setIfInBounds_toArray, List.set_cons_zero, List.set_cons_succ])
        refine wpAnyIn_done (by kernel_rfl) ?_ _
        gi_wp2
        refine bodyPost_ret (results_none rfl _ _ _) rfl ?_
        exact ⟨⟨_, rfl⟩, .inl ⟨pre, HDEC.out.symm, HJ.out pre wr w2 (some U) HJP.out HK2.out.grownU (fun r e => by cases e; exact ⟨hUW, _, _, HRD.out.un⟩)⟩⟩
      | some sr =>
        obtain ⟨s', r'⟩ := sr
        rw [hcnt, decL_succ hnx] at hdec
        rw [hnx] at hnext
        have hg2 := hgd.next hnx
        obtain ⟨z, hz⟩ : ∃ z : Sm, z = (UInt64.ofNat s'.t, UInt64.ofNat s'.v) := ⟨_, rfl⟩
        rw [← hz] at hdec
        obtain ⟨A, hA⟩ : ∃ A, A = sg z.1 := ⟨_, rfl⟩
        have hAi : IntKind.i64.wrap (s'.t : Int) = A := by rw [hA, hz]; exact sg_of s'.t hg2.t
        have hvv : z.2.toNat = s'.v := by rw [hz]; show (UInt64.ofNat s'.v).toNat = s'.v; rw [UInt64.toNat_ofNat']; exact Nat.mod_eq_of_lt hg2.v
        have HENC : Hid (encP z = #[.int .i64 A, .float .f64 s'.v]) := by show _ = _; unfold encP; rw [← hA, hvv]
        have hfr : ∀ W : World, (callFunc 41 #[.int .u64 (s'.v : Int)]).run Tryd.prog W = .ok (.value (.float .f64 s'.v)) W := fun W => frombits_run s'.v W
        have HGD : Hid (Good s') := hg2
        have HDEC : Hid (decR (x :: y :: t) = pre ++ z :: decL (cnt - k - 1) false s' r') := hdec
        have HNX : Hid (∀ W, Rd W U (.slice a1 t.length c1) t p s → Steps W → Calls Tryd.prog 50 #[.pointer (some ⟨U, 0, none⟩), .bool fb] W fun e w' => Says W U (.slice a1 t.length c1) t (some (s', r')) e w') := hnext
        clear hnext hdec hnx hgd hg2 hz hA hvv
        gi_wp2
        refine wpIn_region_any (by kernel_rfl) ?_
        change wpAnyIn _ _ _ _ _ _ _ _ _ (World.drew _)
        refine takeD (i := 0) (v := ?_) 19 rfl rfl rfl (by kernel_rfl) (by kernel_rfl) (by kernel_rfl) (fun _ _ _ h => h) ⟨Or.inl ⟨by rfl, ?_⟩, fun _ => rfl⟩ ?_
        rotate_left
        focus (intro w; go_simp; try (with_reducible rfl))
        (try dsimp only)
        (try simp only [Act.put, List.setIfInBounds_toArray, List.set_cons_zero, List.set_cons_succ])
        refine takeD (i := 1) (v := ?_) 20 rfl rfl rfl (by kernel_rfl) (by kernel_rfl) (by kernel_rfl) (fun _ _ _ h => h) ⟨Or.inl ⟨by rfl, ?_⟩, fun _ => rfl⟩ ?_
        rotate_left
        focus (intro w; go_simp; try (with_reducible rfl))
        (try dsimp only)
        (try simp only [Act.put, List.setIfInBounds_toArray, List.set_cons_zero, List.set_cons_succ])
        refine wpAnyIn_ready (rs := [2]) (by kernel_rfl) (by simp) ?_
        refine AllReadyIn.cons rfl (fun K hK => ?_) AllReadyIn.nil
        go_simp
        gi_wp2_with (gi_at_call 50; refine (callsIn_wide.2 (HNX.out _ (HRD.out.kept ((Kept.refl (fun k => k = U) wr).drewN 1) HRD.out.un HRD.out.le) HSTW.out)).mono ?_; rintro e w2 ⟨b2, p2, s2, rfl, hr2, hk2, -, hs2⟩; obtain ⟨rfl, rfl, hd2⟩ := hs2 _ _ rfl; obtain ⟨-, -, d2, -, d4, -, -, -⟩ := hr2.un.cells; have HK2 : Hid (Kept (fun k => k = U) wr w2) := keptU ((Kept.refl (fun k => k = U) wr).drewN 1) hk2; have HR2 : Hid (Rd w2 U (.slice a1 t.length c1) t p2 s2) := hr2; have HD2 : Hid ((ub t).drop p2 = r') := hd2; clear hr2 hk2 hs2 hd2)
        (try (refine hK _ _ ?_; clear hK K))
        (try dsimp only)
        (try simp only [Act.put, List.setIfInBounds_toArray, List.set_cons_zero, List.set_cons_succ])
        have hfr2 := hfr w2
        clear hfr
        have hbl2 : Below w0.heap.size w0 w2 := HBL.out.trans (HK2.out.toBelow HBL.out.size (fun i e => by subst e; exact Nat.le_trans HBW.out.size hUW))
        refine takeD (i := 3) (v := ?_) 22 rfl rfl rfl (by kernel_rfl) (by kernel_rfl) (by kernel_rfl) (fun _ _ _ h => h) ⟨Or.inl ⟨by rfl, ?_⟩, fun _ => rfl⟩ ?_
        rotate_left
        focus (intro w; go_simp; try (with_reducible rfl))
        (try dsimp only)
        (try simp only [Act.put, List.setIfInBounds_toArray, List.set_cons_zero, List.set_cons_succ])
        refine takeD (i := 4) (v := ?_) 23 rfl rfl rfl (by kernel_rfl) (by kernel_rfl) (by kernel_rfl) (fun _ _ _ h => h) ⟨Or.inl ⟨by rfl, ?_⟩, fun _ => rfl⟩ ?_
        rotate_left
        focus (intro w; go_simp; try (with_reducible rfl))
        (try dsimp only)
        (try simp only [Act.put, List.setIfInBounds_toArray, List.set_cons_zero, List.set_cons_succ])
        refine takeD (i := 5) (v := ?_) 24 rfl rfl rfl (by kernel_rfl) (by kernel_rfl) (by kernel_rfl) (fun _ _ _ h => h) ⟨Or.inl ⟨by rfl, ?_⟩, fun _ => rfl⟩ ?_
        rotate_left
        focus (intro w; go_simp; try (with_reducible rfl))
        (try dsimp only)
        (try simp only [Act.put, List.setIfInBounds_toArray, List.set_cons_zero, List.set_cons_succ])
        refine takeD (i := 6) (v := ?_) 25 rfl rfl rfl (by kernel_rfl) (by kernel_rfl) (by kernel_rfl) (fun _ _ _ h => h) ⟨Or.inl ⟨by rfl, ?_⟩, fun _ => rfl⟩ ?_
        rotate_left
        focus (intro w; go_simp; try (with_reducible rfl))
        (try dsimp only)
        (try simp only [Act.put, List.setIfInBounds_toArray, List.set_cons_zero, List.set_cons_succ])
        refine takeD (i := 7) (v := ?_) 26 rfl rfl rfl (by kernel_rfl) (by kernel_rfl) (by kernel_rfl) (fun _ _ _ h => h) ⟨Or.inl ⟨by rfl, ?_⟩, fun _ => rfl⟩ ?_
        rotate_left
        focus (intro w; go_simp; try (with_reducible rfl))
        (try dsimp only)
        (try simp only [Act.put, List.setIfInBounds_toArray, List.set_cons_zero, List.set_cons_succ])
        refine takeD (i := 10) (v := ?_) 29 rfl rfl rfl (by kernel_rfl) (by kernel_rfl) (by kernel_rfl) (fun _ _ _ h => h) ⟨Or.inl ⟨by rfl, ?_⟩, fun _ => rfl⟩ ?_
        rotate_left
        focus (intro w; go_simp; try (with_reducible rfl))
        (try dsimp only)
        (try simp only [Act.put, List.setIfInBounds_toArray, List.set_cons_zero, List.set_cons_succ])
        refine takeD (i := 11) (v := ?_) 30 rfl rfl rfl (by kernel_rfl) (by kernel_rfl) (by kernel_rfl) (fun _ _ _ h => h) ⟨Or.inl ⟨by rfl, ?_⟩, fun _ => rfl⟩ ?_
        rotate_left
        focus (intro w; go_simp; try (with_reducible rfl))
        (try dsimp only)
        (try simp only [Act.put, List.setIfInBounds_toArray, List.set_cons_zero, List.set_cons_succ])
        refine wpAnyIn_ready (rs := [8, 12]) (by kernel_rfl) (by simp) ?_
        refine (AllReadyIn.cons rfl (fun K hK => ?_) (AllReadyIn.cons rfl (fun K hK => ?_) AllReadyIn.nil))
        · go_simp
          (try (refine hK _ _ ?_; clear hK K))
          (try dsimp only)
          (try simp only [Act.put, List.setIfInBounds_toArray, List.set_cons_zero, List.set_cons_succ])
          refine takeD (i := 9) (v := ?_) 28 rfl rfl rfl (by kernel_rfl) (by kernel_rfl) (by kernel_rfl) (fun _ _ _ h => h) ⟨Or.inl ⟨by rfl, ?_⟩, fun _ => rfl⟩ ?_
          rotate_left
          focus (intro w; go_simp; try (with_reducible rfl))
          (try dsimp only)
          (try simp only [Act.put, List.setIfInBounds_toArray, List.set_cons_zero, List.set_cons_succ])
          refine wpAnyIn_ready (rs := [12]) (by kernel_rfl) (by simp) ?_
          refine (AllReadyIn.cons rfl (fun K hK => ?_) AllReadyIn.nil)
          go_simp
          (try (refine hK _ _ ?_; clear hK K))
          (try dsimp only)
          (try simp only [Act.put, List.setIfInBounds_toArray, List.set_cons_zero, List.set_cons_succ])
          refine wpAnyIn_ready (rs := [13]) (by kernel_rfl) (by simp) ?_
          refine (AllReadyIn.cons rfl (fun K hK => ?_) AllReadyIn.nil)
          go_simp
          (try (refine hK _ _ ?_; clear hK K))
          (try dsimp only)
          (try simp only [Act.put, List.setIfInBounds_toArray, List.set_cons_zero, List.set_cons_succ])
          obtain ⟨fn, tmps, assign, body, hyy, hR⟩ := HY.out pre z w2 (HJ.out pre wr w2 (some U) HJP.out HK2.out.grownU (fun r e => by cases e; exact ⟨hUW, _, _, HRD.out.un⟩)) (by omega)
          rw [HENC.out] at hyy
          refine wpAnyIn_ready (rs := [14]) (by kernel_rfl) (by simp) ?_
          refine AllReadyIn.cons rfl (fun K hK => ?_) AllReadyIn.nil
          go_simp
          gi_wp2
          refine hR.mono ?_
          rintro e W3 (⟨rfl, hJ3, hk3⟩ | ⟨rfl, hJx3⟩)
          · (try (refine hK _ _ ?_; clear hK K))
            (try dsimp only)
            (try simp only [Act.put, List.setIfInBounds_toArray, List.set_cons_zero, List.set_cons_succ])
            refine takeD (i := 15) (v := ?_) 34 rfl rfl rfl (by kernel_rfl) (by kernel_rfl) (by kernel_rfl) (fun _ _ _ h => h) ⟨Or.inl ⟨by rfl, ?_⟩, fun _ => rfl⟩ ?_
            rotate_left
            focus (intro w; go_simp; try (with_reducible rfl))
            (try dsimp only)
            (try simp only [Act.put, List.setIfInBounds_toArray, List.set_cons_zero, List.set_cons_succ])
            refine takeD (i := 16) (v := ?_) 35 rfl rfl rfl (by kernel_rfl) (by kernel_rfl) (by kernel_rfl) (fun _ _ _ h => h) ⟨Or.inl ⟨by rfl, ?_⟩, fun _ => rfl⟩ ?_
            rotate_left
            focus (intro w; go_simp; try (with_reducible rfl))
            (try dsimp only)
            (try simp only [Act.put, List.setIfInBounds_toArray, List.set_cons_zero, List.set_cons_succ])
            refine wpAnyIn_done (by kernel_rfl) ?_ _
            gi_wp2
            go_roundw
            case rel => exact ⟨k + 1, p2, s2, pre ++ [z], by omega, by go_num, ⟨⟨hk3.2 _ _ _ HR2.out.un, HB1.out.below (hbl2.trans hk3.1), HR2.out.le, HR2.out.len⟩, HGD.out, hbl2.trans hk3.1, by simp; omega, hJ3, by rw [HDEC.out, HD2.out, show decide (k + 1 = 0) = false by simp, show cnt - (k + 1) = cnt - k - 1 by omega, List.append_assoc]; rfl⟩⟩
            case measure => simp [intOf]; omega
          · (try (refine hK _ _ ?_; clear hK K))
            (try dsimp only)
            (try simp only [Act.put, List.setIfInBounds_toArray, List.set_cons_zero, List.set_cons_succ])
            refine takeD (i := 15) (v := ?_) 34 rfl rfl rfl (by kernel_rfl) (by kernel_rfl) (by kernel_rfl) (fun _ _ _ h => h) ⟨Or.inl ⟨by rfl, ?_⟩, fun _ => rfl⟩ ?_
            rotate_left
            focus (intro w; go_simp; try (with_reducible rfl))
            (try dsimp only)
            (try simp only [Act.put, List.setIfInBounds_toArray, List.set_cons_zero, List.set_cons_succ])
            refine takeD (i := 16) (v := ?_) 35 rfl rfl rfl (by kernel_rfl) (by kernel_rfl) (by kernel_rfl) (fun _ _ _ h => h) ⟨Or.inl ⟨by rfl, ?_⟩, fun _ => rfl⟩ ?_
            rotate_left
            focus (intro w; go_simp; try (with_reducible rfl))
            (try dsimp only)
            (try simp only [Act.put, List.setIfInBounds_toArray, List.set_cons_zero, List.set_cons_succ])
            refine wpAnyIn_done (by kernel_rfl) ?_ _
            gi_wp2
            refine bodyPost_ret (results_none rfl _ _ _) rfl ?_
            exact ⟨⟨_, rfl⟩, .inr ⟨_, by rw [HDEC.out]; exact ⟨decL (cnt - k - 1) false s2 r', by simp⟩, hJx3⟩⟩
        · go_simp
          (try (refine hK _ _ ?_; clear hK K))
          (try dsimp only)
          (try simp only [Act.put, List.setIfInBounds_toArray, List.set_cons_zero, List.set_cons_succ])
          refine wpAnyIn_ready (rs := [8, 13]) (by kernel_rfl) (by simp) ?_
          refine (AllReadyIn.cons rfl (fun K hK => ?_) (AllReadyIn.cons rfl (fun K hK => ?_) AllReadyIn.nil))
          · go_simp
            (try (refine hK _ _ ?_; clear hK K))
            (try dsimp only)
            (try simp only [Act.put, List.setIfInBounds_toArray, List.set_cons_zero, List.set_cons_succ])
            refine takeD (i := 9) (v := ?_) 28 rfl rfl rfl (by kernel_rfl) (by kernel_rfl) (by kernel_rfl) (fun _ _ _ h => h) ⟨Or.inl ⟨by rfl, ?_⟩, fun _ => rfl⟩ ?_
            rotate_left
            focus (intro w; go_simp; try (with_reducible rfl))
            (try dsimp only)
            (try simp only [Act.put, List.setIfInBounds_toArray, List.set_cons_zero, List.set_cons_succ])
            refine wpAnyIn_ready (rs := [13]) (by kernel_rfl) (by simp) ?_
            refine (AllReadyIn.cons rfl (fun K hK => ?_) AllReadyIn.nil)
            go_simp
            (try (refine hK _ _ ?_; clear hK K))
            (try dsimp only)
            (try simp only [Act.put, List.setIfInBounds_toArray, List.set_cons_zero, List.set_cons_succ])
            obtain ⟨fn, tmps, assign, body, hyy, hR⟩ := HY.out pre z w2 (HJ.out pre wr w2 (some U) HJP.out HK2.out.grownU (fun r e => by cases e; exact ⟨hUW, _, _, HRD.out.un⟩)) (by omega)
            rw [HENC.out] at hyy
            refine wpAnyIn_ready (rs := [14]) (by kernel_rfl) (by simp) ?_
            refine AllReadyIn.cons rfl (fun K hK => ?_) AllReadyIn.nil
            go_simp
            gi_wp2
            refine hR.mono ?_
            rintro e W3 (⟨rfl, hJ3, hk3⟩ | ⟨rfl, hJx3⟩)
            · (try (refine hK _ _ ?_; clear hK K))
              (try dsimp only)
              (try simp only [Act.put, List.setIfInBounds_toArray, List.set_cons_zero, List.set_cons_succ])
              refine takeD (i := 15) (v := ?_) 34 rfl rfl rfl (by kernel_rfl) (by kernel_rfl) (by kernel_rfl) (fun _ _ _ h => h) ⟨Or.inl ⟨by rfl, ?_⟩, fun _ => rfl⟩ ?_
              rotate_left
              focus (intro w; go_simp; try (with_reducible rfl))
              (try dsimp only)
              (try simp only [Act.put, List.setIfInBounds_toArray, List.set_cons_zero, List.set_cons_succ])
              refine takeD (i := 16) (v := ?_) 35 rfl rfl rfl (by kernel_rfl) (by kernel_rfl) (by kernel_rfl) (fun _ _ _ h => h) ⟨Or.inl ⟨by rfl, ?_⟩, fun _ => rfl⟩ ?_
              rotate_left
              focus (intro w; go_simp; try (with_reducible rfl))
              (try dsimp only)
              (try simp only [Act.put, List.setIfInBounds_toArray, List.set_cons_zero, List.set_cons_succ])
              refine wpAnyIn_done (by kernel_rfl) ?_ _
              gi_wp2
              go_roundw
              case rel => exact ⟨k + 1, p2, s2, pre ++ [z], by omega, by go_num, ⟨⟨hk3.2 _ _ _ HR2.out.un, HB1.out.below (hbl2.trans hk3.1), HR2.out.le, HR2.out.len⟩, HGD.out, hbl2.trans hk3.1, by simp; omega, hJ3, by rw [HDEC.out, HD2.out, show decide (k + 1 = 0) = false by simp, show cnt - (k + 1) = cnt - k - 1 by omega, List.append_assoc]; rfl⟩⟩
              case measure => simp [intOf]; omega
            · (try (refine hK _ _ ?_; clear hK K))
              (try dsimp only)
              (try simp only [Act.put, List.setIfInBounds_toArray, List.set_cons_zero, List.set_cons_succ])
              refine takeD (i := 15) (v := ?_) 34 rfl rfl rfl (by kernel_rfl) (by kernel_rfl) (by kernel_rfl) (fun _ _ _ h => h) ⟨Or.inl ⟨by rfl, ?_⟩, fun _ => rfl⟩ ?_
              rotate_left
              focus (intro w; go_simp; try (with_reducible rfl))
              (try dsimp only)
              (try simp only [Act.put, List.setIfInBounds_toArray, List.set_cons_zero, List.set_cons_succ])
              refine takeD (i := 16) (v := ?_) 35 rfl rfl rfl (by kernel_rfl) (by kernel_rfl) (by kernel_rfl) (fun _ _ _ h => h) ⟨Or.inl ⟨by rfl, ?_⟩, fun _ => rfl⟩ ?_
              rotate_left
              focus (intro w; go_simp; try (with_reducible rfl))
              (try dsimp only)
              (try simp only [Act.put, List.setIfInBounds_toArray, List.set_cons_zero, List.set_cons_succ])
              refine wpAnyIn_done (by kernel_rfl) ?_ _
              gi_wp2
              refine bodyPost_ret (results_none rfl _ _ _) rfl ?_
              exact ⟨⟨_, rfl⟩, .inr ⟨_, by rw [HDEC.out]; exact ⟨decL (cnt - k - 1) false s2 r', by simp⟩, hJx3⟩⟩
          · go_simp
            (try (refine hK _ _ ?_; clear hK K))
            (try dsimp only)
            (try simp only [Act.put, List.setIfInBounds_toArray, List.set_cons_zero, List.set_cons_succ])
            refine wpAnyIn_ready (rs := [8]) (by kernel_rfl) (by simp) ?_
            refine (AllReadyIn.cons rfl (fun K hK => ?_) AllReadyIn.nil)
            go_simp
            (try (refine hK _ _ ?_; clear hK K))
            (try dsimp only)
            (try simp only [Act.put, List.setIfInBounds_toArray, List.set_cons_zero, List.set_cons_succ])
            refine takeD (i := 9) (v := ?_) 28 rfl rfl rfl (by kernel_rfl) (by kernel_rfl) (by kernel_rfl) (fun _ _ _ h => h) ⟨Or.inl ⟨by rfl, ?_⟩, fun _ => rfl⟩ ?_
            rotate_left
            focus (intro w; go_simp; try (with_reducible rfl))
            (try dsimp only)
            (try simp only [Act.put, List.setIfInBounds_toArray, List.set_cons_zero, List.set_cons_succ])
            obtain ⟨fn, tmps, assign, body, hyy, hR⟩ := HY.out pre z w2 (HJ.out pre wr w2 (some U) HJP.out HK2.out.grownU (fun r e => by cases e; exact ⟨hUW, _, _, HRD.out.un⟩)) (by omega)
            rw [HENC.out] at hyy
            refine wpAnyIn_ready (rs := [14]) (by kernel_rfl) (by simp) ?_
            refine AllReadyIn.cons rfl (fun K hK => ?_) AllReadyIn.nil
            go_simp
            gi_wp2
            refine hR.mono ?_
            rintro e W3 (⟨rfl, hJ3, hk3⟩ | ⟨rfl, hJx3⟩)
            · (try (refine hK _ _ ?_; clear hK K))
              (try dsimp only)
              (try simp only [Act.put, List.setIfInBounds_toArray, List.set_cons_zero, List.set_cons_succ])
              refine takeD (i := 15) (v := ?_) 34 rfl rfl rfl (by kernel_rfl) (by kernel_rfl) (by kernel_rfl) (fun _ _ _ h => h) ⟨Or.inl ⟨by rfl, ?_⟩, fun _ => rfl⟩ ?_
              rotate_left
              focus (intro w; go_simp; try (with_reducible rfl))
              (try dsimp only)
              (try simp only [Act.put, List.setIfInBounds_toArray, List.set_cons_zero, List.set_cons_succ])
              refine takeD (i := 16) (v := ?_) 35 rfl rfl rfl (by kernel_rfl) (by kernel_rfl) (by kernel_rfl) (fun _ _ _ h => h) ⟨Or.inl ⟨by rfl, ?_⟩, fun _ => rfl⟩ ?_
              rotate_left
              focus (intro w; go_simp; try (with_reducible rfl))
              (try dsimp only)
              (try simp only [Act.put, List.setIfInBounds_toArray, List.set_cons_zero, List.set_cons_succ])
              refine wpAnyIn_done (by kernel_rfl) ?_ _
              gi_wp2
              go_roundw
              case rel => exact ⟨k + 1, p2, s2, pre ++ [z], by omega, by go_num, ⟨⟨hk3.2 _ _ _ HR2.out.un, HB1.out.below (hbl2.trans hk3.1), HR2.out.le, HR2.out.len⟩, HGD.out, hbl2.trans hk3.1, by simp; omega, hJ3, by rw [HDEC.out, HD2.out, show decide (k + 1 = 0) = false by simp, show cnt - (k + 1) = cnt - k - 1 by omega, List.append_assoc]; rfl⟩⟩
              case measure => simp [intOf]; omega
            · (try (refine hK _ _ ?_; clear hK K))
              (try dsimp only)
              (try simp only [Act.put, List.setIfInBounds_toArray, List.set_cons_zero, List.set_cons_succ])
              refine takeD (i := 15) (v := ?_) 34 rfl rfl rfl (by kernel_rfl) (by kernel_rfl) (by kernel_rfl) (fun _ _ _ h => h) ⟨Or.inl ⟨by rfl, ?_⟩, fun _ => rfl⟩ ?_
              rotate_left
              focus (intro w; go_simp; try (with_reducible rfl))
              (try dsimp only)
              (try simp only [Act.put, List.setIfInBounds_toArray, List.set_cons_zero, List.set_cons_succ])
              refine takeD (i := 16) (v := ?_) 35 rfl rfl rfl (by kernel_rfl) (by kernel_rfl) (by kernel_rfl) (fun _ _ _ h => h) ⟨Or.inl ⟨by rfl, ?_⟩, fun _ => rfl⟩ ?_
              rotate_left
              focus (intro w; go_simp; try (with_reducible rfl))
              (try dsimp only)
              (try simp only [Act.put, List.setIfInBounds_toArray, List.set_cons_zero, List.set_cons_succ])
              refine wpAnyIn_done (by kernel_rfl) ?_ _
              gi_wp2
              refine bodyPost_ret (results_none rfl _ _ _) rfl ?_
              exact ⟨⟨_, rfl⟩, .inr ⟨_, by rw [HDEC.out]; exact ⟨decL (cnt - k - 1) false s2 r', by simp⟩, hJx3⟩⟩
    · have hJe : Hid (decR (x :: y :: t) = pre ∧ J pre wr) := by
        have e0 : cnt - k = 0 := by omega
        rw [e0] at hdec
        have : decL 0 (decide (k = 0)) s ((ub t).drop p) = [] := rfl
        rw [this, List.append_nil] at hdec
        exact ⟨hdec, hj⟩
      clear hI hrd hgd hbl hj hdec
      gi_wp2
      go_end0
      exact ⟨⟨_, rfl⟩, .inl ⟨_, hJe.out.1.symm, hJe.out.2⟩⟩

end Go.Proofs.YtkmclgbiedbfpaaDoor
