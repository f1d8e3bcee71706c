/- ChunkAll, walked (over the contract of the document's All). -/
import Derived.Test.YtkmclgbiedbfpaaDoorVs
import Derived.Test.YtkmclgbiedbfpaaDoorKw
import Derived.Test.YtkmclgbiedbfpaaDoorKm
import Derived.Sort.QuietIn
namespace Go.Proofs.YtkmclgbiedbfpaaDoor
open Go.RowKit Go.Shelf Go.Maps
attribute [local go_sem] Oper.semAt_some

theorem func_nil (B : Nat) (W : World) : (binOp .eql 49 (.func (.func 49) #[] #[.pointer (some ⟨B, 0, none⟩)]) Value.nilFunc).run Tryd.prog W = .ok (.bool false) W := by kernel_rfl

theorem keep_other {W : World} {k : Nat} {o o' : Obj} (ho : W.heap[k]? = some o) (hc : o.isCells = false) {i : Nat} {cs : Array Value} {t : TypeId} {fr : Nat × Nat} (hi : W.heap[i]? = some (.cells cs t fr)) : (W.putObj k o').heap[i]? = some (.cells cs t fr) :=
  (World.putObj_heap_other (fun e => by
    subst e
    rw [ho] at hi
    cases hi
    cases hc)).trans hi
theorem keep_reader {W W' : World} {row : Option Nat} {B : Nat} (hg : W.grownBy W' row) (hr : ∀ r, row = some r → B ≤ r ∧ ∃ cs fr, W.heap[r]? = some (Obj.cells cs 93 fr)) {i : Nat} {cs : Array Value} {t : TypeId} {fr : Nat × Nat} (ht : t ≠ 93) (hi : W.heap[i]? = some (.cells cs t fr)) : W'.heap[i]? = some (.cells cs t fr) :=
  (hg.block i (Array.getElem?_eq_some_iff.1 hi).1 (fun e => by
    obtain ⟨_, cs', fr', h9⟩ := hr i e.symm
    rw [hi] at h9
    cases h9
    exact ht rfl)).trans hi
/-- The law's own cells. -/
def Cs (W : World) (b3 b4 b5 b7 b8 : Nat) (st : Int) (sv : Value) (k n : Int) : Prop := Boxed W b3 3 (.int .i64 st) ∧ Boxed W b4 4 (.bool false) ∧ Boxed W b5 22 sv ∧ Boxed W b7 3 (.int .i64 k) ∧ Boxed W b8 3 (.int .i64 n)
theorem Cs.keep {W W' : World} {b3 b4 b5 b7 b8 : Nat} {st k n : Int} {sv : Value} (h : Cs W b3 b4 b5 b7 b8 st sv k n) (hk : ∀ (i : Nat) (cs : Array Value) (t : TypeId) (fr : Nat × Nat), t ≠ 93 → W.heap[i]? = some (Obj.cells cs t fr) → W'.heap[i]? = some (Obj.cells cs t fr)) : Cs W' b3 b4 b5 b7 b8 st sv k n :=
  ⟨hk _ _ _ _ (by decide) h.1, hk _ _ _ _ (by decide) h.2.1, hk _ _ _ _ (by decide) h.2.2.1, hk _ _ _ _ (by decide) h.2.2.2.1, hk _ _ _ _ (by decide) h.2.2.2.2⟩
theorem Cs.drew {W : World} {b3 b4 b5 b7 b8 : Nat} {st k n : Int} {sv : Value} (h : Cs W b3 b4 b5 b7 b8 st sv k n) : Cs W.drew b3 b4 b5 b7 b8 st sv k n := h
theorem Cs.set {W : World} {b3 b4 b5 b7 b8 : Nat} {st k n : Int} {sv : Value} (h : Cs W b3 b4 b5 b7 b8 st sv k n) (m : Int) (hb : b8 ≠ b3 ∧ b8 ≠ b4 ∧ b8 ≠ b5 ∧ b8 ≠ b7) : Cs (W.setCell ⟨b8, 0, none⟩ (.int .i64 m)) b3 b4 b5 b7 b8 st sv k m := by
  have hg : ∀ i, i ≠ b8 → (W.setCell ⟨b8, 0, none⟩ (.int .i64 m)).heap[i]? = W.heap[i]? := fun i hi => Below.heap_setCell W ⟨b8, 0, none⟩ _ i hi
  exact ⟨(hg _ hb.1.symm).trans h.1, (hg _ hb.2.1.symm).trans h.2.1, (hg _ hb.2.2.1.symm).trans h.2.2.1, (hg _ hb.2.2.2.symm).trans h.2.2.2.1, h.2.2.2.2.set _⟩
/-- How far a round of the law has come. -/
def In1 (w2 : World) (_ms : List Sm) (b3 b4 b5 b7 b8 : Nat) (st : Int) (sv : Value) (k : Int) (pre : List Sm) (W : World) : Prop :=
  Cs W b3 b4 b5 b7 b8 st sv k (pre.length : Nat) ∧ Below w2.heap.size w2 W
theorem In1.calm {w2 : World} {ms : List Sm} {b3 b4 b5 b7 b8 : Nat} {st : Int} {sv : Value} {k : Int} (P : List Sm → Prop) (B : Nat) (hB : w2.heap.size ≤ B) : Calm B (fun pre W => P pre ∧ In1 w2 ms b3 b4 b5 b7 b8 st sv k pre W) := by
  refine ⟨?_, ?_⟩
  · rintro s W j o o' ⟨hp, h1, h2⟩ hj ho hc
    exact ⟨hp, h1.keep (fun i cs t fr _ hi => keep_other ho hc hi), h2.trans (below_putObj W j o' (by omega))⟩
  · rintro s W W' row ⟨hp, h1, h2⟩ hg hr
    exact ⟨hp, h1.keep (fun i cs t fr ht hi => keep_reader hg hr ht hi), h2.grown hg h2.size (fun j hj => by have := (hr j hj).1; omega)⟩
theorem In1.calm2 {w2 : World} {ms : List Sm} {b3 b4 b5 b7 b8 : Nat} {st : Int} {sv : Value} {k : Int} (Q P : List Sm → Prop) (B : Nat) (hB : w2.heap.size ≤ B) : Calm B (fun pre W => Q pre ∨ (P pre ∧ In1 w2 ms b3 b4 b5 b7 b8 st sv k pre W)) := by
  have h := In1.calm (w2 := w2) (ms := ms) (b3 := b3) (b4 := b4) (b5 := b5) (b7 := b7) (b8 := b8) (st := st) (sv := sv) (k := k) P B hB
  refine ⟨?_, ?_⟩
  · rintro s W j o o' (hq | h1) hj ho hc
    · exact .inl hq
    · exact .inr (h.other s W j o o' h1 hj ho hc)
  · rintro s W W' row (hq | h1) hg hr
    · exact .inl hq
    · exact .inr (h.reader s W W' row h1 hg hr)
theorem Calm.block {B D : Nat} {I : List Sm → World → Prop} {ob : Obj} (h : Calm B I) (hD : D < B) : Calm B (fun pre W => I pre W ∧ W.heap[D]? = some ob) := by
  refine ⟨?_, ?_⟩
  · rintro s W j o o' ⟨h1, h2⟩ hj ho hc
    exact ⟨h.other s W j o o' h1 hj ho hc, (World.putObj_heap_other (by omega)).trans h2⟩
  · rintro s W W' row ⟨h1, h2⟩ hg hr
    exact ⟨h.reader s W W' row h1 hg hr, (hg.block D (Array.getElem?_eq_some_iff.1 h2).1 (fun e => by have := (hr D e.symm).1; omega)).trans h2⟩
theorem keepU_set {w0 W : World} {b : Nat} {t : TypeId} {v u : Value} (h : Boxed W b t v) (ht : t ≠ 93) (hb : w0.heap.size ≤ b) : KeepU w0 W (W.setCell ⟨b, 0, none⟩ u) :=
  ⟨(Below.refl _ _).setCell (p := ⟨b, 0, none⟩) hb _, fun k cs fr hk => (Below.heap_setCell W ⟨b, 0, none⟩ u k (fun e => by
    have e' : k = b := e
    subst e'
    have h9 : W.heap[k]? = _ := h
    rw [h9] at hk
    cases hk
    exact ht rfl)).trans hk⟩
theorem sg_inj2 {a b : UInt64} (h : sg a = sg b) : a = b := by
  have h1 := sg_wrap a
  have h2 := sg_wrap b
  rw [h, h2] at h1
  exact UInt64.toNat_inj.1 (by omega)
theorem res_all (tmps : Array Value) (b : Nat) (hp : tmps.getD 4 undef = .pointer (some ⟨b, 0, none⟩)) (W : World) (hc : W.cell? ⟨b, 0, none⟩ = some (.bool true)) : (results Tryd.f6 tmps).run Tryd.prog W = .ok (.bool true) W := by
  have hp' : tmps[4]?.getD undef = .pointer (some ⟨b, 0, none⟩) := by simpa using hp
  simp [results, Tryd.results6, go_sem, hp', hc]
theorem decL_len (n : Nat) : ∀ (f : Bool) (s : An) (r : List Bool), (decL n f s r).length ≤ n := by
  induction n with
  | zero => intro f s r; exact Nat.le_refl _
  | succ n ih =>
    intro f s r
    rw [decL]
    cases nextD f s r with
    | none => exact Nat.zero_le _
    | some p =>
      have := ih false p.1 p.2
      simp
      exact this
theorem decR_len (bs : List UInt8) : (decR bs).length ≤ 65535 := by
  match bs with
  | [] => exact Nat.zero_le _
  | [a] => exact Nat.zero_le _
  | x :: y :: t =>
    have h := decL_len (x.toNat * 256 + y.toNat) true An.zero (ub t)
    have hx := x.toNat_lt
    have hy := y.toNat_lt
    show (decL _ _ _ _).length ≤ _
    omega
theorem snoc_pre {ms pre : List Sm} {x : Sm} (h : pre <+: ms) (hl : pre.length < ms.length) : pre ++ [x] <+: ms ↔ ms[pre.length] = x := by
  obtain ⟨t, rfl⟩ := h
  cases t with
  | nil => simp at hl
  | cons y t =>
    simp
    exact ⟨fun h => h.symm, fun h => h.symm⟩

set_option maxRecDepth 100000 in
set_option maxHeartbeats 3000000 in
theorem allLaw_short (v : Value) (bs : List UInt8) (stop : Int) (w : World) (h : BytesAt w v bs) (hs1 : -9223372036854775808 ≤ stop) (hs2 : stop ≤ 9223372036854775807) (hbl : bs.length ≤ 3000) (hL : Laid w w.heap.size)
    (HREF : Hid (∀ W V, BytesAt W V bs → Calls Tryd.prog 25 #[V] W fun e w' => ∃ a c, e = .returned (.slice a (decR bs).length c) ∧ SmpAt w' (.slice a (decR bs).length c) (decR bs) ∧ Below W.heap.size W w'))
    (HWK : Hid (∀ W, Below w.heap.size w W → Calls Tryd.prog 19 #[] W fun e w' => e = .returned (.bool true) ∧ Below W.heap.size W w')) :
    Calls Tryd.prog 6 #[v, .int .i64 stop] w fun e w' => e = .returned (.bool true) ∧ Below w.heap.size w w' := by
  obtain ⟨a, c, rfl, -, -, -⟩ := id h
  refine (callsIn_wide (n := 9)).1 ?_
  have t1 : Fence.wide.fn 25 := trivial
  have t2 : Fence.wide.fn 26 := trivial
  have t3 : Fence.wide.fn 28 := trivial
  have t4 : Fence.wide.fn 19 := trivial
  have t5 : Fence.wide.fn 27 := trivial
  obtain ⟨WA, hWA⟩ : ∃ WA, (w.alloc (Obj.cells #[Value.int IntKind.i64 stop] 3)).alloc (Obj.cells #[Value.bool false] 4) = WA := ⟨_, rfl⟩
  have hbA : Below w.heap.size w WA := by rw [← hWA]; exact ((Below.refl _ _).alloc (Nat.le_refl _) _).alloc (by simp) _
  have href := HREF.out WA _ (h.below hbA)
  have HALL : Hid (∀ W, Below w.heap.size w W → Calls Tryd.prog 26 #[.slice a bs.length c] W fun e w' => ∃ (B : Nat) (v' : Value) (cs : List UInt8), e = .returned (.func (.func 49) #[] #[.pointer (some ⟨B, 0, none⟩)]) ∧ w'.cell? ⟨B, 0, none⟩ = some v' ∧ BytesAt w' v' cs ∧ cs.length ≤ 100000 ∧ decR cs = decR bs ∧ Below W.heap.size W w') := fun W hW => allC_any _ bs W (h.below hW) (by omega)
  have hli : (bs.length : Int) ≤ 3000 := by omega
  have qn := func_nil
  have hmsl : (decR bs).length ≤ 65535 := decR_len bs
  clear h
  generalize hmsd : decR bs = ms at *
  refine callsIn_of_wp_marks Tryd.func6 rfl trivial ?_ rfl
  simp only [Tryd.ntmps6, List.size_toArray, List.length_cons, List.length_nil, Nat.reduceAdd, Nat.reduceSub, Array.replicate_succ, Array.replicate_zero, List.push_toArray, List.append_toArray, List.nil_append, List.cons_append]
  gi_wp2_with (first
    | (gi_at_call 25; (refine (callsIn_wide.2 href).mono ?_; clear href; rintro e w1 ⟨aS, cS, rfl, hl1, hb1⟩; have hbw1 : Below w.heap.size w w1 := hbA.trans (hb1.mono hbA.size)))
    | (gi_at_call 26; refine (callsIn_wide.2 (HALL.out _ (hbw1.alloc hbw1.size _))).mono ?_; clear HALL; rintro e w2 ⟨Bc, vc, cs, rfl, hcc, hlc, hcl, hcd, hb2⟩))
  refine wpIn_loop_rounds 3 ?_
  rw [roundsIn_succ]
  gi_wp2
  obtain ⟨W0, hW0⟩ : ∃ W0, (w2.alloc (Obj.cells #[Value.int IntKind.i64 0] 3)).alloc (Obj.cells #[Value.int IntKind.i64 0] 3) = W0 := ⟨_, rfl⟩
  have hs0 : W0.heap.size = w2.heap.size + 2 := by rw [← hW0]; simp
  have hsA : WA.heap.size = w.heap.size + 2 := by rw [← hWA]; simp
  have hs01 := hb1.size
  have hs12 := hb2.size
  simp at hs12
  have b3A : Boxed WA w.heap.size 3 (.int .i64 stop) := by rw [← hWA]; exact (Boxed.new w 3 _).alloc _
  have b4A : Boxed WA (w.heap.size + 1) 4 (.bool false) := by
    have h9 := Boxed.new (w.alloc (Obj.cells #[Value.int IntKind.i64 stop] 3)) 4 (.bool false)
    rw [World.size_alloc] at h9
    rw [← hWA]; exact h9
  have b5B : Boxed (w1.alloc (Obj.cells #[Value.slice aS ms.length cS] 22)) w1.heap.size 22 (.slice aS ms.length cS) := Boxed.new w1 _ _
  have hbw2 : Below w.heap.size w w2 := hbw1.trans (((Below.refl _ w1).alloc (Nat.le_refl _) _ |>.mono (by omega)).trans (hb2.mono (by simp; omega)))
  have hCs0 : Cs W0 w.heap.size (w.heap.size + 1) w1.heap.size w2.heap.size (w2.heap.size + 1) stop (.slice aS ms.length cS) 0 0 := by
    have k3 : Boxed w2 w.heap.size 3 (.int .i64 stop) := (hb2.block _ (by simp; omega)).trans (Boxed.alloc (show Boxed w1 _ _ _ from (hb1.block _ (by omega)).trans b3A) _)
    have k4 : Boxed w2 (w.heap.size + 1) 4 (.bool false) := (hb2.block _ (by simp; omega)).trans (Boxed.alloc (show Boxed w1 _ _ _ from (hb1.block _ (by omega)).trans b4A) _)
    have k5 : Boxed w2 w1.heap.size 22 (.slice aS ms.length cS) := (hb2.block _ (by simp)).trans b5B
    have k8 := Boxed.new (w2.alloc (Obj.cells #[Value.int IntKind.i64 0] 3)) 3 (.int .i64 0)
    rw [World.size_alloc] at k8
    rw [← hW0]
    exact ⟨(k3.alloc _).alloc _, (k4.alloc _).alloc _, (k5.alloc _).alloc _, (Boxed.new w2 3 _).alloc _, k8⟩
  have hbW0 : Below w2.heap.size w2 W0 := by rw [← hW0]; exact ((Below.refl _ _).alloc (Nat.le_refl _) _).alloc (by simp) _
  have HL2 : Hid (SmpAt w2 (.slice aS ms.length cS) ms) := (hl1.below ((Below.refl _ _).alloc (Nat.le_refl _) _)).below hb2
  have hcB : W0.cell? ⟨Bc, 0, none⟩ = some vc := (hbW0.cell (p := ⟨Bc, 0, none⟩) (cell_lt hcc)).trans hcc
  have hSt : Steps w2 := ((hL.below hbw2).mono hbw2.size).steps
  rw [hW0]
  clear hW0 b5B b3A b4A
  refine range_joinU (w0 := w2) rfl (by omega) (gf := 49) (lb := #[.pointer (some ⟨Bc, 0, none⟩)]) rfl trivial (enters_of Tryd.func49 (by kernel_rfl) rfl) (by omega) (decR cs) 65536
    (fun l J Jx W hbW hJ hY hj0 => each_seq 8 (by omega) Bc w2 W0 vc cs hlc hcl hSt hbW0 hcB l J Jx W hbW hJ hY hj0)
    (fun _ => rfl)
    (fun pre W => pre <+: ms ∧ In1 w2 ms w.heap.size (w.heap.size + 1) w1.heap.size w2.heap.size (w2.heap.size + 1) stop (.slice aS ms.length cS) 0 pre W)
    (fun cd pre W => (cd = .ret ∧ ¬ pre <+: ms) ∨ (cd = .exit 2 ∧ In1 w2 ms w.heap.size (w.heap.size + 1) w1.heap.size w2.heap.size (w2.heap.size + 1) stop (.slice aS ms.length cS) 0 pre W))
    (In1.calm _ _ (by omega)) (fun cd => In1.calm2 _ (fun _ => cd = .exit 2) _ (by omega))
    ⟨List.nil_prefix, hCs0, hbW0⟩
    (fun z => { tmps := #[Value.slice a bs.length c, Value.int IntKind.i64 stop, undef, Value.pointer (some { block := w.heap.size, off := 0 }), Value.pointer (some { block := w.heap.size + 1, off := 0 }), Value.pointer (some { block := w1.heap.size, off := 0 }), Value.func (Fn.func 49) #[] #[Value.pointer (some { block := Bc, off := 0 })], Value.pointer (some { block := w2.heap.size, off := 0 }), Value.pointer (some { block := w2.heap.size + 1, off := 0 }), .int .i64 (sg z.1), .float .f64 z.2.toNat, Value.slice a bs.length c, Value.int IntKind.i64 bs.length, Value.bool (decide (3000 < (bs.length : Int))), undef, undef, Value.slice a bs.length c, Value.slice aS ms.length cS, Value.slice a bs.length c, Value.func (Fn.func 49) #[] #[Value.pointer (some { block := Bc, off := 0 })], Value.func (Fn.func 49) #[] #[Value.pointer (some { block := Bc, off := 0 })], Value.bool false, Value.int IntKind.i64 0, Value.bool true, undef, undef, Value.func (Fn.func 49) #[] #[Value.pointer (some { block := Bc, off := 0 })], .int .i64 (sg z.1), .float .f64 z.2.toNat, undef, undef, undef, undef, undef, undef, undef, undef, undef, undef, undef, undef, undef, undef, undef, undef, undef, undef, undef, undef, undef, undef, undef, undef, undef, undef, undef, undef, undef, undef, undef, undef, undef, undef, undef, undef, undef, undef, undef, undef, undef, undef, undef, undef, undef, undef], defers := [] })
    2 (fun _ _ h => h) (fun W => ∃ n : Nat, Cs W w.heap.size (w.heap.size + 1) w1.heap.size w2.heap.size (w2.heap.size + 1) stop (.slice aS ms.length cS) 0 n ∧ Below w2.heap.size w2 W)
    (fun W hi => ⟨_, hi.2.1, hi.2.2⟩)
    (fun cd pre W hp hi => by
      rw [hcd] at hp
      rcases hi with ⟨_, h9⟩ | ⟨rfl, h1, h2⟩
      · exact (h9 hp).elim
      · exact ⟨rfl, _, h1, h2⟩)
    ?assign ?body ?cont
  case assign =>
    intro l z W K hK
    dsimp only [encP]
    gi_wp2
    exact hK
  case body =>
    rintro l pre ⟨z1, z2⟩ W ⟨hpre, hC, hBw⟩ hpl
    have c3 := hC.1.cell
    have c4 := hC.2.1.cell
    have f4 := hC.2.1.frozen
    have c5 := hC.2.2.1.cell
    have c7 := hC.2.2.2.1.cell
    have c8 := hC.2.2.2.2.cell
    have f8 := hC.2.2.2.2.frozen
    have hmx : Tryd.prog.follows .mixedOrders = true := by kernel_rfl
    by_cases hlt : pre.length < ms.length
    · obtain ⟨b, o, rfl, hone⟩ := HL2.out.one pre.length hlt
      obtain ⟨g0, g1⟩ := hone W hBw
      have HPX : Hid (pre ++ [(z1, z2)] <+: ms ↔ ms[pre.length] = (z1, z2)) := snoc_pre hpre hlt
      generalize ms[pre.length] = y at *
      obtain ⟨y1, y2⟩ := y
      dsimp only at g0 g1
      have hC' := hC.set ((pre.length : Int) + 1) ⟨by omega, by omega, by omega, by omega⟩
      have hB' := hBw.setCell (p := ⟨w2.heap.size + 1, 0, none⟩) (by show w2.heap.size ≤ w2.heap.size + 1; omega) (.int .i64 ((pre.length : Int) + 1))
      have hKU := keepU_set (w0 := w2) (u := .int .i64 ((pre.length : Int) + 1)) hC.2.2.2.2 (by decide) (by omega)
      have d3 := hC'.1.cell
      have d5 := hC'.2.2.1.cell
      have d7 := hC'.2.2.2.1.cell
      have d8 := hC'.2.2.2.2.cell
      have hcast : (((pre ++ [(z1, z2)]).length : Nat) : Int) = (pre.length : Int) + 1 := by rw [List.length_append]; simp
      have HKU : Hid (KeepU w2 W (W.setCell ⟨w2.heap.size + 1, 0, none⟩ (.int .i64 ((pre.length : Int) + 1)))) := hKU
      have HIN : Hid (In1 w2 ms w.heap.size (w.heap.size + 1) w1.heap.size w2.heap.size (w2.heap.size + 1) stop (.slice (some ⟨b, o, none⟩) ms.length cS) 0 (pre ++ [(z1, z2)]) (W.setCell ⟨w2.heap.size + 1, 0, none⟩ (.int .i64 ((pre.length : Int) + 1))).drew) := ⟨by rw [hcast]; exact hC'.drew, below_drewN hB' 1⟩
      have hpi : (pre.length : Int) < (ms.length : Int) := by omega
      have hyi := sg_in y1
      have hzi := sg_in z1
      have HKB : Hid (∀ W', Calls Tryd.prog 27 #[.float .f64 y2.toNat, .float .f64 z2.toNat] W' fun e w' => e = .returned (.bool (decide (y2.toNat = z2.toNat))) ∧ w' = W') := fun W' => keepBits_any _ _ W'
      clear hcast hB' hKU hC' hC hone
      by_cases hy : (y1, y2) = (z1, z2)
      · cases hy
        have HPY : Hid (pre ++ [(z1, z2)] <+: ms) := HPX.out.2 rfl
        have HKB1 : Hid (∀ W', Calls Tryd.prog 27 #[.float .f64 z2.toNat, .float .f64 z2.toNat] W' fun e w' => e = .returned (.bool true) ∧ w' = W') := fun W' => by
          have := HKB.out W'
          rw [decide_eq_true rfl] at this
          exact this
        clear HPX HKB
        gi_wp2_with (gi_at_call 27; refine (CallsIn.inRound l (callsIn_wide.2 (HKB1.out _))).mono ?_; rintro e w' ⟨rfl, hww⟩; have hww := hww.symm; subst hww)
        have hwr : IntKind.i64.wrap ((ms.length : Int) + 1) = (ms.length : Int) + 1 := wrapI (by omega) (by omega)
        have HWI : Hid (∀ W', Calls Tryd.prog 28 #[.int .i64 stop, .int .i64 (IntKind.i64.wrap ((ms.length : Int) + 1))] W' fun e w' => e = .returned (.int .i64 (stop % ((ms.length : Int) + 1))) ∧ w' = W') := fun W' => by rw [hwr]; exact within_any stop (ms.length + 1) W' (by omega) (by omega) (by omega) (by omega)
        clear hwr
        gi_region_with_o (gi_at_call 28; refine (CallsIn.inRound l (callsIn_wide.2 (HWI.out _))).mono ?_; rintro e w' ⟨rfl, hww⟩; have hww := hww.symm; subst hww)
        all_goals clear HWI
        all_goals gi_wp2
        all_goals first
          | exact ⟨(KeepsOthers.setCell _ _ _).trans (KeepsOthers.drew _), .inr ⟨rfl, HIN.out⟩⟩
          | exact ⟨(KeepsOthers.setCell _ _ _).trans (KeepsOthers.drew _), ⟨below_drewN HKU.out.1 1, HKU.out.2⟩, HPY.out, HIN.out⟩
      · have HNE : Hid (¬ (pre ++ [(z1, z2)] <+: ms)) := fun h => hy (HPX.out.1 h)
        by_cases hT : sg y1 = sg z1
        · have hV : ¬ y2.toNat = z2.toNat := fun e => hy (by rw [sg_inj2 hT, UInt64.toNat_inj.1 e])
          have HKB1 : Hid (∀ W', Calls Tryd.prog 27 #[.float .f64 y2.toNat, .float .f64 z2.toNat] W' fun e w' => e = .returned (.bool false) ∧ w' = W') := fun W' => by
            have := HKB.out W'
            rw [decide_eq_false hV] at this
            exact this
          rw [hT] at g0
          clear HPX HKB hy hV hT hyi
          gi_wp2_with (gi_at_call 27; refine (CallsIn.inRound l (callsIn_wide.2 (HKB1.out _))).mono ?_; rintro e w' ⟨rfl, hww⟩; have hww := hww.symm; subst hww)
          exact ⟨KeepsOthers.setCell _ _ _, .inl ⟨rfl, HNE.out⟩⟩
        · have hT1 : (sg y1 == sg z1) = false := by simpa using hT
          have hT2 : (sg y1 != sg z1) = true := by simpa using hT
          clear HPX HKB hy
          gi_wp2
          exact ⟨KeepsOthers.setCell _ _ _, .inl ⟨rfl, HNE.out⟩⟩
    · have HNE : Hid (¬ (pre ++ [(z1, z2)] <+: ms)) := fun h => by
        have := h.length_le
        rw [List.length_append] at this
        simp at this
        omega
      have hge : (ms.length : Int) ≤ (pre.length : Int) := by omega
      gi_wp2
      exact ⟨KeepsOthers.setCell _ _ _, .inl ⟨rfl, HNE.out⟩⟩
  case cont =>
    rintro D W hD ⟨n, hC, hBw⟩ hK
    have HK1 : Hid (W.heap[D]? = some (.deferred (some []))) := hK
    have HC1 : Hid (Cs W w.heap.size (w.heap.size + 1) w1.heap.size w2.heap.size (w2.heap.size + 1) stop (.slice aS ms.length cS) 0 n) := hC
    have HB1 : Hid (Below w2.heap.size w2 W) := hBw
    have c7 := hC.2.2.2.1.cell
    have hsz := hBw.size
    have hDW : D < W.heap.size := (Array.getElem?_eq_some_iff.1 hK).1
    clear hC hBw hK
    gi_wp2
    rw [roundsIn_succ]
    gi_wp2
    obtain ⟨W4, hW4⟩ : ∃ W4, (W.alloc (Obj.cells #[Value.int IntKind.i64 1] 3)).alloc (Obj.cells #[Value.int IntKind.i64 0] 3) = W4 := ⟨_, rfl⟩
    have hs4 : W4.heap.size = W.heap.size + 2 := by rw [← hW4]; simp
    have hbW4 : Below W.heap.size W W4 := by rw [← hW4]; exact ((Below.refl _ _).alloc (Nat.le_refl _) _).alloc (by simp) _
    have hC4 : Cs W4 w.heap.size (w.heap.size + 1) w1.heap.size W.heap.size (W.heap.size + 1) stop (.slice aS ms.length cS) 1 0 := by
      have k8 := Boxed.new (W.alloc (Obj.cells #[Value.int IntKind.i64 1] 3)) 3 (.int .i64 0)
      rw [World.size_alloc] at k8
      rw [← hW4]
      exact ⟨(HC1.out.1.alloc _).alloc _, (HC1.out.2.1.alloc _).alloc _, (HC1.out.2.2.1.alloc _).alloc _, (Boxed.new W 3 _).alloc _, k8⟩
    have hK4 : W4.heap[D]? = some (.deferred (some [])) := (hbW4.block D hDW).trans HK1.out
    have hb24 : Below w2.heap.size w2 W4 := HB1.out.trans (hbW4.mono hsz)
    have hcB4 : W4.cell? ⟨Bc, 0, none⟩ = some vc := (hb24.cell (p := ⟨Bc, 0, none⟩) (cell_lt hcc)).trans hcc
    rw [hW4]
    clear hW4 c7
    refine range_joinU (w0 := w2) rfl (by omega) (gf := 49) (lb := #[.pointer (some ⟨Bc, 0, none⟩)]) rfl trivial (enters_of Tryd.func49 (by kernel_rfl) rfl) (by omega) (decR cs) 65536
      (fun l J Jx W hbW hJ hY hj0 => each_seq 8 (by omega) Bc w2 W4 vc cs hlc hcl hSt hb24 hcB4 l J Jx W hbW hJ hY hj0)
      (fun _ => rfl)
      (fun pre W' => (pre <+: ms ∧ In1 w2 ms w.heap.size (w.heap.size + 1) w1.heap.size W.heap.size (W.heap.size + 1) stop (.slice aS ms.length cS) 1 pre W') ∧ W'.heap[D]? = some (.deferred (some [])))
      (fun cd pre W' => cd = .ret ∧ ¬ pre <+: ms)
      ((In1.calm _ _ (by omega)).block (by omega)) (fun cd => ⟨fun s A k o o' hs _ _ _ => hs, fun s A B row hs _ _ => hs⟩)
      ⟨⟨List.nil_prefix, hC4, hb24⟩, hK4⟩
      (fun z => { tmps := #[Value.slice a bs.length c, Value.int IntKind.i64 stop, undef, Value.pointer (some { block := w.heap.size, off := 0 }), Value.pointer (some { block := w.heap.size + 1, off := 0 }), Value.pointer (some { block := w1.heap.size, off := 0 }), Value.func (Fn.func 49) #[] #[Value.pointer (some { block := Bc, off := 0 })], Value.pointer (some { block := W.heap.size, off := 0 }), Value.pointer (some { block := W.heap.size + 1, off := 0 }), .int .i64 (sg z.1), .float .f64 z.2.toNat, Value.slice a bs.length c, Value.int IntKind.i64 bs.length, Value.bool (decide (3000 < (bs.length : Int))), undef, undef, Value.slice a bs.length c, Value.slice aS ms.length cS, Value.slice a bs.length c, Value.func (Fn.func 49) #[] #[Value.pointer (some { block := Bc, off := 0 })], Value.func (Fn.func 49) #[] #[Value.pointer (some { block := Bc, off := 0 })], Value.bool false, Value.int IntKind.i64 1, Value.bool true, Value.int IntKind.i64 0, Value.int IntKind.i64 1, Value.func (Fn.func 49) #[] #[Value.pointer (some { block := Bc, off := 0 })], .int .i64 (sg z.1), .float .f64 z.2.toNat, undef, undef, undef, undef, undef, undef, undef, undef, undef, undef, undef, undef, undef, undef, undef, undef, undef, undef, undef, undef, undef, undef, undef, undef, undef, undef, undef, undef, undef, undef, undef, undef, undef, undef, undef, undef, .int .i64 0, .bool false, .bool false, undef, undef, undef, undef, .bool false, .int .i64 0, undef], defers := [] })
      2 (fun _ _ h => h) (fun W' => Cs W' w.heap.size (w.heap.size + 1) w1.heap.size W.heap.size (W.heap.size + 1) stop (.slice aS ms.length cS) 1 (ms.length : Nat) ∧ Below w2.heap.size w2 W' ∧ W'.heap[D]? = some (.deferred (some [])))
      (fun W' hi => by rw [hcd] at hi; exact ⟨hi.1.2.1, hi.1.2.2, hi.2⟩)
      (fun cd pre W' hp hi => by rw [hcd] at hp; exact (hi.2 hp).elim)
      ?assign2 ?body2 ?cont2
    case assign2 =>
      intro l z W K hK
      dsimp only [encP]
      gi_wp2
      exact hK
    case body2 =>
      rintro l pre ⟨z1, z2⟩ W5 ⟨⟨hpre, hC, hBw⟩, hKD⟩ hpl
      have c3 := hC.1.cell
      have c4 := hC.2.1.cell
      have f4 := hC.2.1.frozen
      have c5 := hC.2.2.1.cell
      have c7 := hC.2.2.2.1.cell
      have c8 := hC.2.2.2.2.cell
      have f8 := hC.2.2.2.2.frozen
      have hmx : Tryd.prog.follows .mixedOrders = true := by kernel_rfl
      by_cases hlt : pre.length < ms.length
      · obtain ⟨b, o, rfl, hone⟩ := HL2.out.one pre.length hlt
        obtain ⟨g0, g1⟩ := hone W5 hBw
        have HPX : Hid (pre ++ [(z1, z2)] <+: ms ↔ ms[pre.length] = (z1, z2)) := snoc_pre hpre hlt
        generalize ms[pre.length] = y at *
        obtain ⟨y1, y2⟩ := y
        dsimp only at g0 g1
        have hC' := hC.set ((pre.length : Int) + 1) ⟨by omega, by omega, by omega, by omega⟩
        have hB' := hBw.setCell (p := ⟨W.heap.size + 1, 0, none⟩) (by show w2.heap.size ≤ W.heap.size + 1; omega) (.int .i64 ((pre.length : Int) + 1))
        have hKU := keepU_set (w0 := w2) (u := .int .i64 ((pre.length : Int) + 1)) hC.2.2.2.2 (by decide) (by omega)
        have d3 := hC'.1.cell
        have d5 := hC'.2.2.1.cell
        have d7 := hC'.2.2.2.1.cell
        have d8 := hC'.2.2.2.2.cell
        have hcast : (((pre ++ [(z1, z2)]).length : Nat) : Int) = (pre.length : Int) + 1 := by rw [List.length_append]; simp
        have HKU : Hid (KeepU w2 W5 (W5.setCell ⟨W.heap.size + 1, 0, none⟩ (.int .i64 ((pre.length : Int) + 1)))) := hKU
        have HIN : Hid (In1 w2 ms w.heap.size (w.heap.size + 1) w1.heap.size W.heap.size (W.heap.size + 1) stop (.slice (some ⟨b, o, none⟩) ms.length cS) 1 (pre ++ [(z1, z2)]) (W5.setCell ⟨W.heap.size + 1, 0, none⟩ (.int .i64 ((pre.length : Int) + 1))).drew) := ⟨by rw [hcast]; exact hC'.drew, below_drewN hB' 1⟩
        have HKD : Hid ((W5.setCell ⟨W.heap.size + 1, 0, none⟩ (.int .i64 ((pre.length : Int) + 1))).heap[D]? = some (.deferred (some []))) := (KeepsOthers.setCell _ _ _).same D _ hKD rfl
        have hpi : (pre.length : Int) < (ms.length : Int) := by omega
        have hyi := sg_in y1
        have hzi := sg_in z1
        have HKB : Hid (∀ W', Calls Tryd.prog 27 #[.float .f64 y2.toNat, .float .f64 z2.toNat] W' fun e w' => e = .returned (.bool (decide (y2.toNat = z2.toNat))) ∧ w' = W') := fun W' => keepBits_any _ _ W'
        clear hcast hB' hKU hC' hC hone
        by_cases hy : (y1, y2) = (z1, z2)
        · cases hy
          have HPY : Hid (pre ++ [(z1, z2)] <+: ms) := HPX.out.2 rfl
          have HKB1 : Hid (∀ W', Calls Tryd.prog 27 #[.float .f64 z2.toNat, .float .f64 z2.toNat] W' fun e w' => e = .returned (.bool true) ∧ w' = W') := fun W' => by
            have := HKB.out W'
            rw [decide_eq_true rfl] at this
            exact this
          clear HPX HKB
          gi_wp2_with (gi_at_call 27; refine (CallsIn.inRound l (callsIn_wide.2 (HKB1.out _))).mono ?_; rintro e w' ⟨rfl, hww⟩; have hww := hww.symm; subst hww)
          gi_region_with_o (fail)
          all_goals gi_wp2
          all_goals exact ⟨(KeepsOthers.setCell _ _ _).trans (KeepsOthers.drew _), ⟨below_drewN HKU.out.1 1, HKU.out.2⟩, ⟨HPY.out, HIN.out⟩, HKD.out⟩
        · have HNE : Hid (¬ (pre ++ [(z1, z2)] <+: ms)) := fun h => hy (HPX.out.1 h)
          by_cases hT : sg y1 = sg z1
          · have hV : ¬ y2.toNat = z2.toNat := fun e => hy (by rw [sg_inj2 hT, UInt64.toNat_inj.1 e])
            have HKB1 : Hid (∀ W', Calls Tryd.prog 27 #[.float .f64 y2.toNat, .float .f64 z2.toNat] W' fun e w' => e = .returned (.bool false) ∧ w' = W') := fun W' => by
              have := HKB.out W'
              rw [decide_eq_false hV] at this
              exact this
            rw [hT] at g0
            clear HPX HKB hy hV hT hyi
            gi_wp2_with (gi_at_call 27; refine (CallsIn.inRound l (callsIn_wide.2 (HKB1.out _))).mono ?_; rintro e w' ⟨rfl, hww⟩; have hww := hww.symm; subst hww)
            exact ⟨KeepsOthers.setCell _ _ _, rfl, HNE.out⟩
          · have hT1 : (sg y1 == sg z1) = false := by simpa using hT
            have hT2 : (sg y1 != sg z1) = true := by simpa using hT
            clear HPX HKB hy
            gi_wp2
            exact ⟨KeepsOthers.setCell _ _ _, rfl, HNE.out⟩
      · have HNE : Hid (¬ (pre ++ [(z1, z2)] <+: ms)) := fun h => by
          have := h.length_le
          rw [List.length_append] at this
          simp at this
          omega
        have hge : (ms.length : Int) ≤ (pre.length : Int) := by omega
        gi_wp2
        exact ⟨KeepsOthers.setCell _ _ _, rfl, HNE.out⟩
    case cont2 =>
      rintro D2 W6 hD2 ⟨hC, hBw, hKD⟩ hK2
      have c7 := hC.2.2.2.1.cell
      have c5 := hC.2.2.1.cell
      have c8 := hC.2.2.2.2.cell
      have hs6 := hBw.size
      have HK2 : Hid (W6.heap[D2]? = some (.deferred (some []))) := hK2
      have HKD : Hid (W6.heap[D]? = some (.deferred (some []))) := hKD
      have HC6 : Hid (Boxed W6 (w.heap.size + 1) 4 (.bool false)) := hC.2.1
      have HB6 : Hid (Below w2.heap.size w2 W6) := hBw
      clear hK2 hKD hBw hC
      gi_wp2
      rw [roundsIn_succ]
      have hb7 : Below W6.heap.size W6 (W6.alloc (Obj.cells #[Value.int IntKind.i64 2] 3)) := (Below.refl _ _).alloc (Nat.le_refl _) _
      have hsw := hbw2.size
      have hw6 : Below w.heap.size w W6 := hbw2.trans (HB6.out.mono hsw)
      have HW6 : Hid (Below w.heap.size w W6) := hw6
      have hwk := HWK.out (W6.alloc (Obj.cells #[Value.int IntKind.i64 2] 3)) (hw6.trans (hb7.mono hw6.size))
      have hd2l : D2 < W6.heap.size := (Array.getElem?_eq_some_iff.1 HK2.out).1
      have hdl : D < W6.heap.size := (Array.getElem?_eq_some_iff.1 HKD.out).1
      have h4l : w.heap.size + 1 < W6.heap.size := HC6.out.lt
      gi_wp2_with (gi_at_call 19; refine (callsIn_wide.2 hwk).mono ?_; clear hwk; rintro e W8 ⟨rfl, hb8⟩; have e68 := hb7.trans (hb8.mono (by simp)); have b48 : Boxed W8 (w.heap.size + 1) 4 (.bool false) := (e68.block _ h4l).trans HC6.out; have c48 := b48.cell; have f48 := b48.frozen)
      have hk2 : (W8.setCell ⟨w.heap.size + 1, 0, none⟩ (.bool true)).heap[D2]? = some (.deferred (some [])) := (KeepsOthers.setCell _ _ _).same D2 _ ((e68.block D2 hd2l).trans HK2.out) rfl
      have hkD : (W8.setCell ⟨w.heap.size + 1, 0, none⟩ (.bool true)).heap[D]? = some (.deferred (some [])) := (KeepsOthers.setCell _ _ _).same D _ ((e68.block D hdl).trans HKD.out) rfl
      have hDne : D ≠ D2 := by omega
      have hkD' : ((W8.setCell ⟨w.heap.size + 1, 0, none⟩ (.bool true)).putObj D2 (.deferred none)).heap[D]? = some (.deferred (some [])) := (World.putObj_heap_other hDne).trans hkD
      have b49 : Boxed (W8.setCell ⟨w.heap.size + 1, 0, none⟩ (.bool true)) (w.heap.size + 1) 4 (.bool true) := b48.set _
      have h42 : w.heap.size + 1 ≠ D2 := fun e => by
        rw [← e] at hk2
        have := b49.symm.trans hk2
        cases this
      have h4D : w.heap.size + 1 ≠ D := fun e => by
        rw [← e] at hkD
        have := b49.symm.trans hkD
        cases this
      have b4z : Boxed (((W8.setCell ⟨w.heap.size + 1, 0, none⟩ (.bool true)).putObj D2 (.deferred none)).putObj D (.deferred none)) (w.heap.size + 1) 4 (.bool true) := ((World.putObj_heap_other h4D).trans (World.putObj_heap_other h42)).trans b49
      have hbz : Below w.heap.size w (W8.setCell ⟨w.heap.size + 1, 0, none⟩ (.bool true)) := (HW6.out.trans (e68.mono HW6.out.size)).setCell (p := ⟨w.heap.size + 1, 0, none⟩) (by show w.heap.size ≤ w.heap.size + 1; omega) _
      refine ⟨by simp, .inl ⟨_, _, rfl, run_takeDeferred hk2, ?_⟩⟩
      refine ⟨by simp, .inl ⟨_, _, rfl, run_takeDeferred hkD', ?_⟩⟩
      refine ⟨_, res_all _ _ rfl _ b4z.cell, rfl, ?_⟩
      exact (hbz.trans (below_putObj _ D2 _ (by omega))).trans (below_putObj _ D _ (by omega))

end Go.Proofs.YtkmclgbiedbfpaaDoor
