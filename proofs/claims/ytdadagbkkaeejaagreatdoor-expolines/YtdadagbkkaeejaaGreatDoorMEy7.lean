/- ExpoLines, walked (over the contract of wakes). -/
import Derived.Test.YtdadagbkkaeejaaGreatDoorMEy6
import Derived.Sort.QuietIn
namespace Go.Proofs.YtdadagbkkaeejaaGreatDoor
open Go.RowKit Go.Shelf Go.Maps
attribute [local go_sem] Oper.semAt_some

theorem ret_intX {a b : Int} (h : a = b) : Ending.returned (.int .i64 a) = .returned (.int .i64 b) := by rw [h]
theorem emodX (n m : Int) : n % m = (n.tmod m) % m := by
  have h := Int.mul_tdiv_add_tmod n m
  conv => lhs; rw [← h, Int.add_comm]
  rw [Int.add_mul_emod_self_left]

set_option maxRecDepth 100000 in
set_option maxHeartbeats 1000000 in
theorem withinX_any (n m : Int) (w : World) (hm : 1 ≤ m) (hm' : m ≤ 1000000) (_hn : -9223372036854775808 ≤ n) (_hn' : n ≤ 9223372036854775807) :
    Calls Tryz.prog 7 #[.int .i64 n, .int .i64 m] w fun e w' => e = .returned (.int .i64 (n % m)) ∧ w' = w := by
  have hmz : m ≠ 0 := by omega
  have h1 : -m < Int.tmod n m := by
    have := Int.lt_tmod_of_pos n (show 0 < m by omega); omega
  have h2 : Int.tmod n m < m := Int.tmod_lt_of_pos n (by omega)
  by_cases h : Int.tmod n m < 0
  · go_enter Tryz.func7, Tryz.ntmps7
    go_wp2
    go_ret
    have e : n.tmod m + m = n % m := by
      have e2 := Int.add_mul_emod_self_left (n.tmod m) m 1
      rw [Int.mul_one] at e2
      rw [emodX, ← e2]
      exact (Int.emod_eq_of_lt (by omega) (by omega)).symm
    exact ⟨ret_intX e, rfl⟩
  · go_enter Tryz.func7, Tryz.ntmps7
    go_wp2
    go_ret
    have e : n.tmod m = n % m := by
      rw [emodX]
      exact (Int.emod_eq_of_lt (by omega) (by omega)).symm
    exact ⟨ret_intX e, rfl⟩


theorem func_nilX (B : Nat) (W : World) : (binOp .eql 27 (.func (.func 13) #[] #[.pointer (some ⟨B, 0, none⟩)]) Value.nilFunc).run Tryz.prog W = .ok (.bool false) W := by kernel_rfl

theorem cellsKX {W W' : World} {row : Option Nat} {g : Nat} {c : Array Value} {t : TypeId} {fr : Nat × Nat} (h : W.heap[g]? = some (.cells c t fr)) (hg : W.grownBy W' row) (hr : ∀ r, row = some r → ∃ o : Obj, W.heap[r]? = some o ∧ o.isCells = false) : W'.heap[g]? = some (.cells c t fr) := by
  refine (hg.block g (Array.getElem?_eq_some_iff.1 h).1 fun e => ?_).trans h
  obtain ⟨o, ho, hc⟩ := hr g e.symm
  rw [h] at ho
  cases ho
  cases hc
theorem wrapIX {x : Int} (h1 : -9223372036854775808 ≤ x) (h2 : x ≤ 9223372036854775807) : IntKind.i64.wrap x = x := by
  rw [IntWalk.i64_left]
  exact IntWalk.wrap64_in x ⟨h1, h2⟩
theorem bytesIX {a b : ByteArray} (h : a.toList = b.toList) : a = b := by
  rw [ByteArray.toList_eq, ByteArray.toList_eq] at h
  exact WideShapes.bytes_inj h
theorem boxed_drewX {W : World} {B : Nat} {t : TypeId} {v : Value} (h : Boxed W B t v) : Boxed W.drew B t v := h
/-- A range over a function whose breaks and whose end come to one place. -/
theorem range_joinX {α : Type} {F : Fence} {n : Nat} {P : Program} {g : Operand} {ps : Array Tmp} {assign body : Code} {Q : Exit → Act → World → Prop} {a : Act} {w : World}
    (hro : F.round = none) (h1 : 1 ≤ n) {gf : Nat} {lb : Array Value} (hg : a.eval g = .func (.func gf) #[] lb) (hFg : F.fn gf) (eg : ∀ args w, (callFunc gf args).run P w = .ok (.enter gf args) w)
    {encs : α → Array Value} {Kp : World → World → Prop} {S Sp : List α → Prop} {N : Nat} {w0 : World} (hseq : SeqStopsK F (n - 1) P gf lb encs Kp S Sp N w0)
    (hKt : ∀ {A B C : World}, Kp A B → Kp B C → Kp A C) (hKb : ∀ (W : World) (l : Nat) (o o' : Obj), w.heap.size ≤ l → W.heap[l]? = some o → o.isCells = false → o.isWalk = false → Kp W (W.putObj l o')) (hb0 : Below w0.heap.size w0 w) (hps : ∀ x, (encs x).size = ps.size)
    (I : List α → World → Prop) (Ix : Code → List α → World → Prop) (hI : OwnFrom w.heap.size I) (hIx : ∀ c, OwnFrom w.heap.size (Ix c)) (h0 : I [] w) (a₁ : α → Act) (id : Nat) (hx : ∀ a w, Q .normal a w → Q (.exit id) a w)
    (R : World → Prop) (hR1 : ∀ xs W, S xs → I xs W → R W) (hR2 : ∀ c pre W, Sp pre → Ix c pre W → c = .exit id ∧ R W)
    (hassign : ∀ (l : Nat) (x : α) (W : World) (K : Act → World → Prop), K (a₁ x) W →
      assign.wpIn (F.inRound l) (n - 1 - 1) P (Exit.then K (fun _ _ _ => False)) { tmps := (ps.zip (encs x)).foldl (fun t (p, v) => t.setIfInBounds p v) a.tmps, defers := [] } W)
    (hbody : ∀ (l : Nat) (pre : List α) (x : α) (W : World), I pre W → pre.length < N → body.wpIn (F.inRound l) (n - 1 - 1) P (ownPostK Kp I Ix (pre ++ [x]) W) (a₁ x) W)
    (hcont : ∀ (D : Nat) (W : World), w.heap.size ≤ D → R W → W.heap[D]? = some (.deferred (some [])) → Q .normal { a with defers := { target := .collected D, args := #[] } :: a.defers } W) :
    (Code.rangeFunc g ps assign body).wpIn F n P Q a w :=
  wpIn_rangeFunc_ownF hro h1 hg hFg eg hseq hKt hKb hb0 hps I Ix hI hIx h0 a₁ hassign hbody
    (fun D xs W hD hS hi hK => hcont D W hD (hR1 xs W hS hi) hK)
    (fun D c pre W hD hS hi hK => by
      obtain ⟨rfl, hr⟩ := hR2 c pre W hS hi
      exact wpIn_exit (hx _ _ (hcont D W hD hr hK)))
theorem res_allX (tmps : Array Value) (b : Nat) (hp : tmps.getD 4 undef = .pointer (some ⟨b, 0, none⟩)) (W : World) (hc : W.cell? ⟨b, 0, none⟩ = some (.bool true)) : (results Tryz.f3 tmps).run Tryz.prog W = .ok (.bool true) W := by
  have hp' : tmps[4]?.getD undef = .pointer (some ⟨b, 0, none⟩) := by simpa using hp
  simp [results, Tryz.results3, go_sem, hp', hc]
/-- The law's own cells. -/
def CsX (W : World) (b3 b4 b5 b7 : Nat) (st : Int) (sv : Value) (k : Int) : Prop := Boxed W b3 3 (.int .i64 st) ∧ Boxed W b4 4 (.bool false) ∧ Boxed W b5 24 sv ∧ Boxed W b7 3 (.int .i64 k)
theorem CsX.keep {W W' : World} {b3 b4 b5 b7 : Nat} {st k : Int} {sv : Value} (h : CsX W b3 b4 b5 b7 st sv k) (hk : ∀ i, (i = b3 ∨ i = b4 ∨ i = b5 ∨ i = b7) → W'.heap[i]? = W.heap[i]?) : CsX W' b3 b4 b5 b7 st sv k :=
  ⟨(hk b3 (by simp)).trans h.1, (hk b4 (by simp)).trans h.2.1, (hk b5 (by simp)).trans h.2.2.1, (hk b7 (by simp)).trans h.2.2.2⟩
theorem CsX.alloc {W : World} {b3 b4 b5 b7 : Nat} {st k : Int} {sv : Value} (h : CsX W b3 b4 b5 b7 st sv k) (o : Obj) : CsX (W.alloc o) b3 b4 b5 b7 st sv k := ⟨h.1.alloc o, h.2.1.alloc o, h.2.2.1.alloc o, h.2.2.2.alloc o⟩
theorem CsX.set {W : World} {b3 b4 b5 b7 : Nat} {st k : Int} {sv : Value} (h : CsX W b3 b4 b5 b7 st sv k) (b : Nat) (v : Value) (hb : b ≠ b3 ∧ b ≠ b4 ∧ b ≠ b5 ∧ b ≠ b7) : CsX (W.setCell ⟨b, 0, none⟩ v) b3 b4 b5 b7 st sv k :=
  have hg := grownBy_setCell' W b v
  ⟨h.1.kept hg (fun e => hb.1 (Option.some.inj e).symm), h.2.1.kept hg (fun e => hb.2.1 (Option.some.inj e).symm), h.2.2.1.kept hg (fun e => hb.2.2.1 (Option.some.inj e).symm), h.2.2.2.kept hg (fun e => hb.2.2.2 (Option.some.inj e).symm)⟩
theorem CsX.grown {W W' : World} {row : Option Nat} {b3 b4 b5 b7 : Nat} {st k : Int} {sv : Value} (h : CsX W b3 b4 b5 b7 st sv k) (hg : W.grownBy W' row) (hr : ∀ r, row = some r → ∃ o : Obj, W.heap[r]? = some o ∧ o.isCells = false) : CsX W' b3 b4 b5 b7 st sv k :=
  ⟨cellsKX h.1 hg hr, cellsKX h.2.1 hg hr, cellsKX h.2.2.1 hg hr, cellsKX h.2.2.2 hg hr⟩
theorem CsX.drew {W : World} {b3 b4 b5 b7 : Nat} {st k : Int} {sv : Value} (h : CsX W b3 b4 b5 b7 st sv k) : CsX W.drew b3 b4 b5 b7 st sv k := h
theorem TextsAt.get {w : World} {a : Option Addr} {n c : Nat} {ss : List ByteArray} (h : TextsAt w (.slice a n c) ss) (k : Nat) (hk : k < ss.length) : ∃ b o, a = some ⟨b, o, none⟩ ∧ ∀ w', Below w.heap.size w w' → w'.cell? ⟨b, o + k, none⟩ = some (.string ss[k]) := by
  obtain ⟨a', c', e, -, hc⟩ := h
  cases e
  obtain ⟨b, o, rfl, hb, h1, -⟩ := hc k hk
  exact ⟨b, o, rfl, fun w' hb' => (hb'.cell (p := ⟨b, o + k, none⟩) hb).trans h1⟩
theorem snoc_preX {ms pre : List (Int × ByteArray)} {x : Int × ByteArray} (h : pre <+: ms) (hl : pre.length < ms.length) : pre ++ [x] <+: ms ↔ ms[pre.length] = x := by
  obtain ⟨t, rfl⟩ := h
  cases t with
  | nil => simp at hl
  | cons y t =>
    simp
    exact ⟨fun h => h.symm, fun h => h.symm⟩

set_option maxRecDepth 100000 in
set_option maxHeartbeats 3000000 in
theorem linesLaw_of (v : Value) (cb : List UInt8) (ms : List (Int × ByteArray)) (stop : Int) (w : World) (hs1 : -9223372036854775808 ≤ stop) (hs2 : stop ≤ 9223372036854775807) (hcb : cb.length ≤ 1500) (hms : ms.length ≤ 1500)
    (HNUM : Hid (∀ k (h : k < ms.length), ms[k].1 = (k : Int) + 1)) (HMS : Hid (ms = numL 1 (linesF cb))) (HM : Hid (∀ W, Below w.heap.size w W → MaxL W))
    (HCL : Hid (∀ W, Below w.heap.size w W → Calls Tryz.prog 4 #[v] W fun e w' => ∃ a c, e = .returned (.slice a cb.length c) ∧ BytesAt W (.slice a cb.length c) cb ∧ w' = W))
    (HREF : Hid (∀ W a c, BytesAt W (.slice a cb.length c) cb → Calls Tryz.prog 5 #[.slice a cb.length c] W fun e w' => ∃ a' c', e = .returned (.slice a' ms.length c') ∧ TextsAt w' (.slice a' ms.length c') (ms.map Prod.snd) ∧ Below W.heap.size W w'))
    (HWK : Hid (∀ W, Below w.heap.size w W → Calls Tryz.prog 8 #[] W fun e w' => e = .returned (.bool true) ∧ Below W.heap.size W w')) :
    Calls Tryz.prog 3 #[v, .int .i64 stop] w fun e w' => e = .returned (.bool true) ∧ Below w.heap.size w w' := by
  refine (callsIn_wide (n := 9)).1 ?_
  have t0 : Fence.wide.fn 4 := trivial
  have t1 : Fence.wide.fn 5 := trivial
  have t2 : Fence.wide.fn 6 := trivial
  have t3 : Fence.wide.fn 7 := trivial
  have t4 : Fence.wide.fn 8 := trivial
  obtain ⟨WA, hWA⟩ : ∃ WA, (w.alloc (Obj.cells #[Value.int IntKind.i64 stop] 3)).alloc (Obj.cells #[Value.bool false] 4) = WA := ⟨_, rfl⟩
  have hbA : Below w.heap.size w WA := by rw [← hWA]; exact ((Below.refl _ _).alloc (Nat.le_refl _) _).alloc (by simp) _
  have b3A : Boxed WA w.heap.size 3 (.int .i64 stop) := by rw [← hWA]; exact (Boxed.new w 3 _).alloc _
  have b4A : Boxed WA (w.heap.size + 1) 4 (.bool false) := by
    have h9 := Boxed.new (w.alloc (Obj.cells #[Value.int IntKind.i64 stop] 3)) 4 (.bool false)
    rw [World.size_alloc] at h9
    rw [← hWA]; exact h9
  have hclip := HCL.out WA hbA
  have hall : ∀ a c W, BytesAt W (.slice a cb.length c) cb → Calls Tryz.prog 6 #[.slice a cb.length c] W fun e w' => ∃ (B : Nat) (a' : Option Addr) (c' : Nat), e = .returned (.func (.func 13) #[] #[.pointer (some ⟨B, 0, none⟩)]) ∧ w'.cell? ⟨B, 0, none⟩ = some (.slice a' cb.length c') ∧ BytesAt w' (.slice a' cb.length c') cb ∧ B < w'.heap.size ∧ Below W.heap.size W w' := fun a c W h => lines_any _ cb W h (by omega)
  have qn := func_nilX
  have HALL : Hid _ := hall
  clear hall
  refine callsIn_of_wp_marks Tryz.func3 rfl trivial ?_ rfl
  simp only [Tryz.ntmps3, List.size_toArray, List.length_cons, List.length_nil, Nat.reduceAdd, Nat.reduceSub, Array.replicate_succ, Array.replicate_zero, List.push_toArray, List.append_toArray, List.nil_append, List.cons_append]
  gi_wp2_with (first
    | (gi_at_call 4; (refine (callsIn_wide.2 hclip).mono ?_; clear hclip; rintro e w0 ⟨aC, cC, rfl, hbc, hww⟩; have hww := hww.symm; subst hww; have href := HREF.out _ _ _ hbc))
    | (gi_at_call 5; (refine (callsIn_wide.2 href).mono ?_; clear href; rintro e w1 ⟨aS, cS, rfl, hl1, hb1⟩))
    | (gi_at_call 6; refine (callsIn_wide.2 (HALL.out _ _ _ ((hbc.below hb1).below ((Below.refl _ _).alloc (Nat.le_refl _) _)))).mono ?_; clear HALL; rintro e w2 ⟨Bc, ac, cc, rfl, hcc, hlc, hBc, hb2⟩))
  refine wpIn_loop_rounds 3 ?_
  rw [roundsIn_succ]
  gi_wp2
  obtain ⟨W0, hW0⟩ : ∃ W0, (w2.alloc (Obj.cells #[Value.int IntKind.i64 0] 3)).alloc (Obj.cells #[Value.int IntKind.i64 0] 3) = W0 := ⟨_, rfl⟩
  have hs0 : W0.heap.size = w2.heap.size + 2 := by rw [← hW0]; simp
  have hsA : WA.heap.size = w.heap.size + 2 := by rw [← hWA]; simp
  have hs01 := hb1.size
  have hs12 := hb2.size
  simp at hs12
  have b5B : Boxed (w1.alloc (Obj.cells #[Value.slice aS ms.length cS] 24)) w1.heap.size 24 (.slice aS ms.length cS) := Boxed.new w1 _ _
  have hbw2 : Below w.heap.size w w2 := (hbA.trans (hb1.mono hbA.size)).trans (((Below.refl _ w1).alloc (Nat.le_refl _) _ |>.mono (by omega)).trans (hb2.mono (by simp; omega)))
  have hCs0 : CsX W0 w.heap.size (w.heap.size + 1) w1.heap.size w2.heap.size stop (.slice aS ms.length cS) 0 := by
    have k3 : Boxed w2 w.heap.size 3 (.int .i64 stop) := (hb2.block _ (by simp; omega)).trans (Boxed.alloc (show Boxed w1 _ _ _ from (hb1.block _ (by omega)).trans b3A) _)
    have k4 : Boxed w2 (w.heap.size + 1) 4 (.bool false) := (hb2.block _ (by simp; omega)).trans (Boxed.alloc (show Boxed w1 _ _ _ from (hb1.block _ (by omega)).trans b4A) _)
    have k5 : Boxed w2 w1.heap.size 24 (.slice aS ms.length cS) := (hb2.block _ (by simp)).trans b5B
    rw [← hW0]
    exact ⟨(k3.alloc _).alloc _, (k4.alloc _).alloc _, (k5.alloc _).alloc _, (Boxed.new w2 3 _).alloc _⟩
  have hn0 : Boxed W0 (w2.heap.size + 1) 3 (.int .i64 0) := by
    have h9 := Boxed.new (w2.alloc (Obj.cells #[Value.int IntKind.i64 0] 3)) 3 (.int .i64 0)
    rw [World.size_alloc] at h9
    rw [← hW0]; exact h9
  have hbW0 : Below w2.heap.size w2 W0 := by rw [← hW0]; exact ((Below.refl _ _).alloc (Nat.le_refl _) _).alloc (by simp) _
  have HL2 : Hid (TextsAt w2 (.slice aS ms.length cS) (ms.map Prod.snd)) := (hl1.below ((Below.refl _ _).alloc (Nat.le_refl _) _)).below hb2
  have hM2 : ∀ W, Below w2.heap.size w2 W → MaxL W := fun W hb => HM.out W (hbw2.trans (hb.mono hbw2.size))
  have HSS : Hid (∀ W, Below w2.heap.size w2 W → W.cell? ⟨Bc, 0, none⟩ = some (.slice ac cb.length cc) → SeqStopsK Fence.wide 8 Tryz.prog 13 #[.pointer (some ⟨Bc, 0, none⟩)] encN (Below w2.heap.size) (fun ys => ys = ms) (fun pre => pre <+: ms) ms.length W) := fun W hW hc => by
    have h9 := eachX_stops 8 (by omega) Bc w2 (.slice ac cb.length cc) cb hlc (by omega) hM2 W hW (Nat.lt_of_lt_of_le hBc hW.size) hc
    have hl9 : ms.length = (linesF cb).length := by rw [HMS.out, numL_length]
    rw [← HMS.out, ← hl9] at h9
    exact h9
  rw [hW0]
  clear hW0 b5B b3A b4A hM2
  refine range_joinX rfl (by omega) (gf := 13) (lb := #[.pointer (some ⟨Bc, 0, none⟩)]) rfl trivial (enters_of Tryz.func13 (by kernel_rfl) rfl)
    (HSS.out W0 hbW0 ((hbW0.cell (p := ⟨Bc, 0, none⟩) hBc).trans hcc))
    belowK_t (belowK_b (by omega)) (Below.refl _ _) (fun _ => rfl)
    (fun pre W => pre <+: ms ∧ Boxed W (w2.heap.size + 1) 3 (.int .i64 (pre.length : Nat)) ∧ CsX W w.heap.size (w.heap.size + 1) w1.heap.size w2.heap.size stop (.slice aS ms.length cS) 0 ∧ Below w2.heap.size w2 W)
    (fun c pre W => (c = .ret ∧ ¬ pre <+: ms) ∨ (c = .exit 2 ∧ Boxed W (w2.heap.size + 1) 3 (.int .i64 (pre.length : Nat)) ∧ CsX W w.heap.size (w.heap.size + 1) w1.heap.size w2.heap.size stop (.slice aS ms.length cS) 0 ∧ Below w2.heap.size w2 W))
    (fun s A B row hs hg hr => ⟨hs.1, cellsKX hs.2.1 hg (fun r e => (hr r e).2), hs.2.2.1.grown hg (fun r e => (hr r e).2), ownFrom_below (β := List (Int × ByteArray)) (Nat.le_refl _) (by omega) s A B row hs.2.2.2 hg hr⟩)
    (fun c s A B row hs hg hr => by
      rcases hs with h9 | ⟨rfl, h1, h2, h3⟩
      · exact .inl h9
      · exact .inr ⟨rfl, cellsKX h1 hg (fun r e => (hr r e).2), h2.grown hg (fun r e => (hr r e).2), ownFrom_below (β := List (Int × ByteArray)) (Nat.le_refl _) (by omega) s A B row h3 hg hr⟩)
    ⟨List.nil_prefix, hn0, hCs0, hbW0⟩
    (fun x => { tmps := #[Value.slice aC cb.length cC, Value.int IntKind.i64 stop, undef, Value.pointer (some { block := w.heap.size, off := 0 }), Value.pointer (some { block := w.heap.size + 1, off := 0 }), Value.pointer (some { block := w1.heap.size, off := 0 }), Value.func (Fn.func 13) #[] #[Value.pointer (some { block := Bc, off := 0 })], Value.pointer (some { block := w2.heap.size, off := 0 }), Value.pointer (some { block := w2.heap.size + 1, off := 0 }), .int .i64 x.1, .string x.2, v, Value.slice aC cb.length cC, Value.slice aC cb.length cC, Value.slice aS ms.length cS, Value.slice aC cb.length cC, Value.func (Fn.func 13) #[] #[Value.pointer (some { block := Bc, off := 0 })], Value.func (Fn.func 13) #[] #[Value.pointer (some { block := Bc, off := 0 })], Value.bool false, Value.int IntKind.i64 0, Value.bool true, undef, undef, Value.func (Fn.func 13) #[] #[Value.pointer (some { block := Bc, off := 0 })], .int .i64 x.1, .string x.2, undef, undef, undef, undef, undef, undef, undef, undef, undef, undef, undef, undef, undef, undef, undef, undef, undef, undef, undef, undef, undef, undef, undef, undef, undef, undef, undef, undef, undef, undef, undef, undef, undef, undef, undef, undef, undef, undef, undef, undef, undef], defers := [] })
    2 (fun _ _ h => h) (fun W => (∃ n : Nat, Boxed W (w2.heap.size + 1) 3 (.int .i64 n)) ∧ CsX W w.heap.size (w.heap.size + 1) w1.heap.size w2.heap.size stop (.slice aS ms.length cS) 0 ∧ Below w2.heap.size w2 W)
    (fun xs W _ hi => ⟨⟨_, hi.2.1⟩, hi.2.2.1, hi.2.2.2⟩)
    (fun c pre W hp hi => by
      rcases hi with ⟨_, h9⟩ | ⟨rfl, h1, h2, h3⟩
      · exact (h9 hp).elim
      · exact ⟨rfl, ⟨_, h1⟩, h2, h3⟩)
    ?assign ?body ?cont
  case assign =>
    intro l x W K hK
    dsimp only [encN]
    gi_wp2
    exact hK
  case body =>
    rintro l pre ⟨nm, vl⟩ W ⟨hpre, hn, hC, hBw⟩ hpl
    obtain ⟨b, o, rfl, hone⟩ := HL2.out.get pre.length (by simpa using hpl)
    have g0 : W.cell? ⟨b, o + pre.length, none⟩ = some (.string (ms[pre.length]'hpl).2) := by
      have h9 := hone W hBw
      rw [List.getElem_map] at h9
      exact h9
    clear hone
    have hy1 := HNUM.out pre.length hpl
    have HPX : Hid (pre ++ [(nm, vl)] <+: ms ↔ ms[pre.length] = (nm, vl)) := snoc_preX hpre hpl
    generalize ms[pre.length] = y at *
    obtain ⟨y1, y2⟩ := y
    obtain rfl : y1 = (pre.length : Int) + 1 := hy1
    have c3 := hC.1.cell
    have c5 := hC.2.2.1.cell
    have c7 := hC.2.2.2.cell
    have c8 := hn.cell
    have f8 := hn.frozen
    have c4 := hC.2.1.cell
    have f4 := hC.2.1.frozen
    have hpe : pre.length < 1500 := by omega
    have hmx : Tryz.prog.follows .mixedOrders = true := by kernel_rfl
    have hC' := hC.set (w2.heap.size + 1) (.int .i64 ((pre.length : Int) + 1)) ⟨by omega, by omega, by omega, by omega⟩
    have hn' := hn.set (.int .i64 ((pre.length : Int) + 1))
    have hB' := hBw.setCell (p := ⟨w2.heap.size + 1, 0, none⟩) (by show w2.heap.size ≤ w2.heap.size + 1; omega) (.int .i64 ((pre.length : Int) + 1))
    have d3 := hC'.1.cell
    have d5 := hC'.2.2.1.cell
    have d7 := hC'.2.2.2.cell
    have d8 := hn'.cell
    have hlen : ((pre ++ [(nm, vl)]).length : Nat) = pre.length + 1 := by simp
    have hcast : (((pre ++ [(nm, vl)]).length : Nat) : Int) = (pre.length : Int) + 1 := by rw [hlen]; omega
    have HCAST : Hid _ := hcast
    clear hlen hcast
    by_cases hy : ((pre.length : Int) + 1, y2) = (nm, vl)
    · cases hy
      have HPY : Hid _ := HPX.out.2 rfl
      clear HPX
      gi_wp2
      have hwr : IntKind.i64.wrap ((ms.length : Int) + 1) = (ms.length : Int) + 1 := wrapIX (by omega) (by omega)
      have HWI : Hid (∀ W', Calls Tryz.prog 7 #[.int .i64 stop, .int .i64 (IntKind.i64.wrap ((ms.length : Int) + 1))] W' fun e w' => e = .returned (.int .i64 (stop % ((ms.length : Int) + 1))) ∧ w' = W') := fun W' => by rw [hwr]; exact withinX_any stop (ms.length + 1) W' (by omega) (by omega) (by omega) (by omega)
      clear hwr
      gi_region_with_o (gi_at_call 7; refine (CallsIn.inRound l (callsIn_wide.2 (HWI.out _))).mono ?_; rintro e w' ⟨rfl, hww⟩; have hww := hww.symm; subst hww)
      all_goals clear HWI
      all_goals gi_wp2
      all_goals first
        | exact ⟨(KeepsOthers.setCell _ _ _).trans (KeepsOthers.drew _), .inr ⟨rfl, by rw [HCAST.out]; exact boxed_drewX hn', hC'.drew, below_drewN hB' 1⟩⟩
        | exact ⟨(KeepsOthers.setCell _ _ _).trans (KeepsOthers.drew _), below_drewN ((Below.refl _ _).setCell (p := ⟨w2.heap.size + 1, 0, none⟩) (by show w2.heap.size ≤ w2.heap.size + 1; omega) _) 1, HPY.out, by rw [HCAST.out]; exact boxed_drewX hn', hC'.drew, below_drewN hB' 1⟩
    · have HNE : Hid (¬ (pre ++ [(nm, vl)] <+: ms)) := fun h => hy (HPX.out.1 h)
      clear HPX
      by_cases hnm : nm = (pre.length : Int) + 1
      · subst hnm
        have hb : (vl.toList == y2.toList) = false := by
          by_cases h9 : vl.toList = y2.toList
          · exact absurd (by rw [bytesIX h9]) hy
          · simpa using h9
        clear hy
        gi_wp2
        exact ⟨KeepsOthers.setCell _ _ _, .inl ⟨rfl, HNE.out⟩⟩
      · clear hy
        gi_wp2
        exact ⟨KeepsOthers.setCell _ _ _, .inl ⟨rfl, HNE.out⟩⟩
  case cont =>
    rintro D W hD ⟨⟨n, hn⟩, hC, hBw⟩ hK
    have HK1 : Hid (W.heap[D]? = some (.deferred (some []))) := hK
    have HC1 : Hid (CsX W w.heap.size (w.heap.size + 1) w1.heap.size w2.heap.size stop (.slice aS ms.length cS) 0) := hC
    have HB1 : Hid (Below w2.heap.size w2 W) := hBw
    have c7 := hC.2.2.2.cell
    have hsz := hBw.size
    have hDW : D < W.heap.size := (Array.getElem?_eq_some_iff.1 hK).1
    clear hC hBw hK
    gi_wp2
    rw [roundsIn_succ]
    gi_wp2
    obtain ⟨W4, hW4⟩ : ∃ W4, (W.alloc (Obj.cells #[Value.int IntKind.i64 1] 3)).alloc (Obj.cells #[Value.int IntKind.i64 0] 3) = W4 := ⟨_, rfl⟩
    have hs4 : W4.heap.size = W.heap.size + 2 := by rw [← hW4]; simp
    have hbW4 : Below W.heap.size W W4 := by rw [← hW4]; exact ((Below.refl _ _).alloc (Nat.le_refl _) _).alloc (by simp) _
    have hC4 : CsX W4 w.heap.size (w.heap.size + 1) w1.heap.size W.heap.size stop (.slice aS ms.length cS) 1 := by
      rw [← hW4]
      exact ⟨(HC1.out.1.alloc _).alloc _, (HC1.out.2.1.alloc _).alloc _, (HC1.out.2.2.1.alloc _).alloc _, (Boxed.new W 3 _).alloc _⟩
    have hn4 : Boxed W4 (W.heap.size + 1) 3 (.int .i64 0) := by
      have h9 := Boxed.new (W.alloc (Obj.cells #[Value.int IntKind.i64 1] 3)) 3 (.int .i64 0)
      rw [World.size_alloc] at h9
      rw [← hW4]; exact h9
    have hK4 : W4.heap[D]? = some (.deferred (some [])) := (hbW4.block D hDW).trans HK1.out
    have hb24 : Below w2.heap.size w2 W4 := HB1.out.trans (hbW4.mono hsz)
    rw [hW4]
    clear hW4 hn c7
    refine range_joinX rfl (by omega) (gf := 13) (lb := #[.pointer (some ⟨Bc, 0, none⟩)]) rfl trivial (enters_of Tryz.func13 (by kernel_rfl) rfl)
      (HSS.out W4 hb24 ((hb24.cell (p := ⟨Bc, 0, none⟩) hBc).trans hcc))
      belowK_t (belowK_b (by omega)) (Below.refl _ _) (fun _ => rfl)
      (fun pre W' => pre <+: ms ∧ Boxed W' (W.heap.size + 1) 3 (.int .i64 (pre.length : Nat)) ∧ CsX W' w.heap.size (w.heap.size + 1) w1.heap.size W.heap.size stop (.slice aS ms.length cS) 1 ∧ Below w2.heap.size w2 W' ∧ W'.heap[D]? = some (.deferred (some [])))
      (fun c pre W' => c = .ret ∧ ¬ pre <+: ms)
      (fun s A B row hs hg hr => ⟨hs.1, cellsKX hs.2.1 hg (fun r e => (hr r e).2), hs.2.2.1.grown hg (fun r e => (hr r e).2), ownFrom_below (β := List (Int × ByteArray)) (Nat.le_refl _) (by omega) s A B row hs.2.2.2.1 hg hr, (hg.block D (Array.getElem?_eq_some_iff.1 hs.2.2.2.2).1 (fun e => by have := (hr D e.symm).1; omega)).trans hs.2.2.2.2⟩)
      (fun c s A B row hs hg hr => hs)
      ⟨List.nil_prefix, hn4, hC4, hb24, hK4⟩
      (fun x => { tmps := #[Value.slice aC cb.length cC, Value.int IntKind.i64 stop, undef, Value.pointer (some { block := w.heap.size, off := 0 }), Value.pointer (some { block := w.heap.size + 1, off := 0 }), Value.pointer (some { block := w1.heap.size, off := 0 }), Value.func (Fn.func 13) #[] #[Value.pointer (some { block := Bc, off := 0 })], Value.pointer (some { block := W.heap.size, off := 0 }), Value.pointer (some { block := W.heap.size + 1, off := 0 }), .int .i64 x.1, .string x.2, v, Value.slice aC cb.length cC, Value.slice aC cb.length cC, Value.slice aS ms.length cS, Value.slice aC cb.length cC, Value.func (Fn.func 13) #[] #[Value.pointer (some { block := Bc, off := 0 })], Value.func (Fn.func 13) #[] #[Value.pointer (some { block := Bc, off := 0 })], Value.bool false, Value.int IntKind.i64 1, Value.bool true, Value.int IntKind.i64 0, Value.int IntKind.i64 1, Value.func (Fn.func 13) #[] #[Value.pointer (some { block := Bc, off := 0 })], .int .i64 x.1, .string x.2, undef, undef, undef, undef, undef, undef, undef, undef, undef, undef, undef, undef, undef, undef, undef, undef, undef, undef, undef, undef, undef, undef, undef, undef, undef, undef, undef, undef, undef, undef, undef, .int .i64 0, .bool false, .bool false, undef, undef, undef, undef, .bool false, .int .i64 0, undef], defers := [] })
      2 (fun _ _ h => h) (fun W' => Boxed W' (W.heap.size + 1) 3 (.int .i64 (ms.length : Nat)) ∧ CsX W' w.heap.size (w.heap.size + 1) w1.heap.size W.heap.size stop (.slice aS ms.length cS) 1 ∧ Below w2.heap.size w2 W' ∧ W'.heap[D]? = some (.deferred (some [])))
      (fun xs W' hS hi => by subst hS; exact hi.2)
      (fun c pre W' hp hi => (hi.2 hp).elim)
      ?assign2 ?body2 ?cont2
    case assign2 =>
      intro l x W K hK
      dsimp only [encN]
      gi_wp2
      exact hK
    case body2 =>
      rintro l pre ⟨nm, vl⟩ W5 ⟨hpre, hn, hC, hBw, hKD⟩ hpl
      obtain ⟨b, o, rfl, hone⟩ := HL2.out.get pre.length (by simpa using hpl)
      have g0 : W5.cell? ⟨b, o + pre.length, none⟩ = some (.string (ms[pre.length]'hpl).2) := by
        have h9 := hone W5 hBw
        rw [List.getElem_map] at h9
        exact h9
      clear hone
      have hy1 := HNUM.out pre.length hpl
      have HPX : Hid (pre ++ [(nm, vl)] <+: ms ↔ ms[pre.length] = (nm, vl)) := snoc_preX hpre hpl
      generalize ms[pre.length] = y at *
      obtain ⟨y1, y2⟩ := y
      obtain rfl : y1 = (pre.length : Int) + 1 := hy1
      have c3 := hC.1.cell
      have c5 := hC.2.2.1.cell
      have c7 := hC.2.2.2.cell
      have c8 := hn.cell
      have f8 := hn.frozen
      have c4 := hC.2.1.cell
      have f4 := hC.2.1.frozen
      have hpe : pre.length < 1500 := by omega
      have hmx : Tryz.prog.follows .mixedOrders = true := by kernel_rfl
      have hC' := hC.set (W.heap.size + 1) (.int .i64 ((pre.length : Int) + 1)) ⟨by omega, by omega, by omega, by omega⟩
      have hn' := hn.set (.int .i64 ((pre.length : Int) + 1))
      have hB' := hBw.setCell (p := ⟨W.heap.size + 1, 0, none⟩) (by show w2.heap.size ≤ W.heap.size + 1; omega) (.int .i64 ((pre.length : Int) + 1))
      have HKD : Hid ((W5.setCell ⟨W.heap.size + 1, 0, none⟩ (.int .i64 ((pre.length : Int) + 1))).heap[D]? = some (.deferred (some []))) := (KeepsOthers.setCell _ _ _).same D _ hKD rfl
      have d3 := hC'.1.cell
      have d5 := hC'.2.2.1.cell
      have d7 := hC'.2.2.2.cell
      have d8 := hn'.cell
      have hlen : ((pre ++ [(nm, vl)]).length : Nat) = pre.length + 1 := by simp
      have hcast : (((pre ++ [(nm, vl)]).length : Nat) : Int) = (pre.length : Int) + 1 := by rw [hlen]; omega
      have HCAST : Hid _ := hcast
      clear hlen hcast hKD
      by_cases hy : ((pre.length : Int) + 1, y2) = (nm, vl)
      · cases hy
        have HPY : Hid _ := HPX.out.2 rfl
        clear HPX
        gi_wp2
        gi_region_with_o (fail)
        all_goals gi_wp2
        all_goals exact ⟨(KeepsOthers.setCell _ _ _).trans (KeepsOthers.drew _), below_drewN ((Below.refl _ _).setCell (p := ⟨W.heap.size + 1, 0, none⟩) (by show w2.heap.size ≤ W.heap.size + 1; omega) _) 1, HPY.out, by rw [HCAST.out]; exact boxed_drewX hn', hC'.drew, below_drewN hB' 1, HKD.out⟩
      · have HNE : Hid (¬ (pre ++ [(nm, vl)] <+: ms)) := fun h => hy (HPX.out.1 h)
        clear HPX
        by_cases hnm : nm = (pre.length : Int) + 1
        · subst hnm
          have hb : (vl.toList == y2.toList) = false := by
            by_cases h9 : vl.toList = y2.toList
            · exact absurd (by rw [bytesIX h9]) hy
            · simpa using h9
          clear hy
          gi_wp2
          exact ⟨KeepsOthers.setCell _ _ _, rfl, HNE.out⟩
        · clear hy
          gi_wp2
          exact ⟨KeepsOthers.setCell _ _ _, rfl, HNE.out⟩
    case cont2 =>
      rintro D2 W6 hD2 ⟨hn, hC, hBw, hKD⟩ hK2
      have c7 := hC.2.2.2.cell
      have c5 := hC.2.2.1.cell
      have c8 := hn.cell
      have hs6 := hBw.size
      have HK2 : Hid (W6.heap[D2]? = some (.deferred (some []))) := hK2
      have HKD : Hid (W6.heap[D]? = some (.deferred (some []))) := hKD
      have HC6 : Hid (CsX W6 w.heap.size (w.heap.size + 1) w1.heap.size W.heap.size stop (.slice aS ms.length cS) 1) := hC
      have HB6 : Hid (Below w2.heap.size w2 W6) := hBw
      clear hK2 hKD hBw hC
      gi_wp2
      rw [roundsIn_succ]
      have hb7 : Below W6.heap.size W6 (W6.alloc (Obj.cells #[Value.int IntKind.i64 2] 3)) := (Below.refl _ _).alloc (Nat.le_refl _) _
      have hsw := hbw2.size
      have hw6 : Below w.heap.size w W6 := hbw2.trans (HB6.out.mono hsw)
      have HW6 : Hid (Below w.heap.size w W6) := hw6
      have hwk := HWK.out (W6.alloc (Obj.cells #[Value.int IntKind.i64 2] 3)) (hw6.trans (hb7.mono hw6.size))
      have hd2l : D2 < W6.heap.size := (Array.getElem?_eq_some_iff.1 HK2.out).1
      have hdl : D < W6.heap.size := (Array.getElem?_eq_some_iff.1 HKD.out).1
      have h4l : w.heap.size + 1 < W6.heap.size := HC6.out.2.1.lt
      gi_wp2_with (gi_at_call 8; refine (callsIn_wide.2 hwk).mono ?_; clear hwk; rintro e W8 ⟨rfl, hb8⟩; have e68 := hb7.trans (hb8.mono (by simp)); have b48 : Boxed W8 (w.heap.size + 1) 4 (.bool false) := (e68.block _ h4l).trans HC6.out.2.1; have c48 := b48.cell; have f48 := b48.frozen)
      have hk2 : (W8.setCell ⟨w.heap.size + 1, 0, none⟩ (.bool true)).heap[D2]? = some (.deferred (some [])) := (KeepsOthers.setCell _ _ _).same D2 _ ((e68.block D2 hd2l).trans HK2.out) rfl
      have hkD : (W8.setCell ⟨w.heap.size + 1, 0, none⟩ (.bool true)).heap[D]? = some (.deferred (some [])) := (KeepsOthers.setCell _ _ _).same D _ ((e68.block D hdl).trans HKD.out) rfl
      have hDne : D ≠ D2 := by omega
      have hkD' : ((W8.setCell ⟨w.heap.size + 1, 0, none⟩ (.bool true)).putObj D2 (.deferred none)).heap[D]? = some (.deferred (some [])) := (World.putObj_heap_other hDne).trans hkD
      have b49 : Boxed (W8.setCell ⟨w.heap.size + 1, 0, none⟩ (.bool true)) (w.heap.size + 1) 4 (.bool true) := b48.set _
      have h42 : w.heap.size + 1 ≠ D2 := fun e => by
        rw [← e] at hk2
        have := b49.symm.trans hk2
        cases this
      have h4D : w.heap.size + 1 ≠ D := fun e => by
        rw [← e] at hkD
        have := b49.symm.trans hkD
        cases this
      have b4z : Boxed (((W8.setCell ⟨w.heap.size + 1, 0, none⟩ (.bool true)).putObj D2 (.deferred none)).putObj D (.deferred none)) (w.heap.size + 1) 4 (.bool true) := ((World.putObj_heap_other h4D).trans (World.putObj_heap_other h42)).trans b49
      have hbz : Below w.heap.size w (W8.setCell ⟨w.heap.size + 1, 0, none⟩ (.bool true)) := (HW6.out.trans (e68.mono HW6.out.size)).setCell (p := ⟨w.heap.size + 1, 0, none⟩) (by show w.heap.size ≤ w.heap.size + 1; omega) _
      refine ⟨by simp, .inl ⟨_, _, rfl, run_takeDeferred hk2, ?_⟩⟩
      refine ⟨by simp, .inl ⟨_, _, rfl, run_takeDeferred hkD', ?_⟩⟩
      refine ⟨_, res_allX _ _ rfl _ b4z.cell, rfl, ?_⟩
      exact (hbz.trans (belowK_b (w := w) (Nat.le_refl _) _ D2 _ _ (by omega) hk2 rfl rfl)).trans (belowK_b (w := w) (Nat.le_refl _) _ D _ _ (by omega) hkD' rfl rfl)

end Go.Proofs.YtdadagbkkaeejaaGreatDoor
