/- The steps of an expression: alternatives. -/
import Derived.Test.YtmbkcmfcdjccoaaDoorMP32
namespace Go.Proofs.YtmbkcmfcdjccoaaDoor
open Go.RowKit Go.Maps

theorem msC_set1 (l r : List Ms) (m : Ms) (x : Int) (t : Stp) (ht : stK t = ((stK m.st).1, (stK m.st).2.1, x, (stK m.st).2.2.2)) : (msC (l ++ m :: r)).set (l.length * 5 + 3) (.int .i64 x) = msC (l ++ ⟨t, m.a, m.n, m.c⟩ :: r) := by
  rw [msC_append, msC_append, ← msC_length, List.set_append_right _ _ (by omega)]
  congr 1
  have e1 : (msC l).length + 3 - (msC l).length = 3 := by omega
  rw [e1]
  show (stC m ++ msC r).set 3 _ = stC _ ++ msC r
  simp [stC, ht, Ms.cv]
/-- The first end of a bare step is set. -/
theorem WrA.turn1 {F : Nat → Prop} {X : Nat} {W : World} {g c : Nat} {l r : List Ms} {s t : Stp} {x : Int} (h : WrA F X W (some ⟨g, 0, none⟩) c (l ++ bare s :: r)) (ht : stK t = ((stK s).1, (stK s).2.1, x, (stK s).2.2.2)) (ht2 : ∀ l neg, t ≠ .take l neg) {W' : World} (hw : W' = W.setCell ⟨g, l.length * 5 + 3, none⟩ (.int .i64 x)) :
    WrA F X W' (some ⟨g, 0, none⟩) c (l ++ bare t :: r) ∧ WrK X W (sV (some ⟨g, 0, none⟩) (l ++ bare s :: r) c) W' (sV (some ⟨g, 0, none⟩) (l ++ bare t :: r) c) := by
  subst hw
  have hlen : (l ++ bare t :: r).length = (l ++ bare s :: r).length := by simp
  have hob : (sV (some ⟨g, 0, none⟩) (l ++ bare s :: r) c).ownBlock = some g := rfl
  have hgX : g ≠ X := fun e => h.ne (by rw [hob, e])
  have hoth : ∀ q, q ≠ g → (W.setCell ⟨g, l.length * 5 + 3, none⟩ (.int .i64 x)).heap[q]? = W.heap[q]? := fun q hq => Below.heap_setCell _ _ _ _ (by exact hq)
  have hrow := ownsRow_set h.row (g := g) rfl (i := l.length * 5 + 3) (.int .i64 x)
  rw [msC_set1 l r (bare s) x t ht] at hrow
  have hsz : (W.setCell ⟨g, l.length * 5 + 3, none⟩ (.int .i64 x)).heap.size = W.heap.size := by simp
  have hread : ∀ b, F b → (W.setCell ⟨g, l.length * 5 + 3, none⟩ (.int .i64 x)).heap[b]? = W.heap[b]? := fun b hb => hoth b (fun e => (h.far b hb).2.2 (by rw [hob, e]))
  refine ⟨⟨?_, ?_, ?_, fun b hb => ?_, fun x hx => ?_⟩, ⟨?_, fun b hb => Or.inl hb⟩⟩
  · rw [hoth X (fun e => hgX e.symm), hlen]
    exact h.wr
  · rw [hlen]
    exact hrow
  · intro e
    exact h.ne e
  · rw [hsz]
    exact h.far b hb
  · rcases List.mem_append.1 hx with hx | hx
    · exact (h.cls x (List.mem_append.2 (Or.inl hx))).to hread
    · rcases List.mem_cons.1 hx with rfl | hx
      · exact bare_ok ht2
      · exact (h.cls x (List.mem_append.2 (Or.inr (List.mem_cons_of_mem _ hx)))).to hread
  · have hk : Kept (fun b => b = X ∨ (sV (some ⟨g, 0, none⟩) (l ++ bare s :: r) c).ownBlock = some b) W W := Kept.refl _ _
    exact hk.setCell (p := ⟨g, l.length * 5 + 3, none⟩) (fun _ => Or.inr rfl) _

set_option maxRecDepth 100000 in
set_option maxHeartbeats 800000 in
theorem writeEither_any (y z : Nd) (ihy : WrC y) (ihz : WrC z) (hw : WfN (.either y z)) (hgr : GrN 10000 (.either y z)) (F : Nat → Prop) (X p : Nat) (w : World) (va : Option Addr) (c : Nat) (ms : List Ms) (h : WrA F X w va c ms) (hx : NdAt w F (.either y z) p) (hl : (ms.length : Int) + sizeN (.either y z) ≤ 2000) :
    Calls Tryd.prog 35 #[.pointer (some ⟨X, 0, none⟩), .pointer (some ⟨p, 0, none⟩)] w fun e w' => e = .returned (.tuple #[]) ∧ WrD F X w (sV va ms c) ms (emitN (.either y z) ms.length) w' := by
  unfold WfN at hw
  unfold GrN at hgr
  have hzy := wf_size y hw.1
  have hzz := wf_size z hw.2
  rw [sizeN_either] at hl
  unfold NdAt at hx
  obtain ⟨hp, v, x1, x2, hn, hps, hx1, hx2⟩ := hx
  have hcap : capN (sizeN y + sizeN z + 2) = sizeN y + sizeN z + 2 := by unfold capN at hl ⊢; omega
  rw [hcap] at hl
  obtain ⟨gb, gc, rfl, hgF, hcell1⟩ := hps.get (i := 0) (by simp)
  obtain ⟨gb', gc', e1, _, hcell2⟩ := hps.get (i := 1) (by simp)
  injection e1 with e1
  injection e1 with e1
  injection e1 with e1
  subst e1
  have hly := emit_len y hw.1 (by omega) (ms.length + 1)
  have hlz := emit_len z hw.2 (by omega) (ms.length + 2 + (emitN y (ms.length + 1)).length)
  have hem : emitN (.either y z) ms.length = .fork (ms.length + 1) (ms.length + 2 + (emitN y (ms.length + 1)).length) :: (emitN y (ms.length + 1) ++ .jump (ms.length + 2 + (emitN y (ms.length + 1)).length + (emitN z (ms.length + 2 + (emitN y (ms.length + 1)).length)).length) :: emitN z (ms.length + 2 + (emitN y (ms.length + 1)).length)) := by rw [emitN]
  rw [hem]
  clear hem
  have HF : Hid (∀ W : World, (∀ j, F j → W.heap[j]? = w.heap[j]?) → W.cell? ⟨p, 2, none⟩ = some (.slice (some ⟨gb, 0, none⟩) 2 gc) ∧ W.cell? ⟨gb, 0, none⟩ = some (.pointer (some ⟨x1, 0, none⟩)) ∧ W.cell? ⟨gb, 1, none⟩ = some (.pointer (some ⟨x2, 0, none⟩)) ∧ NdAt W F y x1 ∧ NdAt W F z x2) := fun W hW => by
    have hnW := (hW p hp).trans hn
    exact ⟨by rw [cell_of_heap hnW]; rfl, hcell1 W hW, hcell2 W hW, hx1.again hW, hx2.again hW⟩
  have HA0 : Hid (WrA F X w va c ms) := h
  have HS : Hid (WrS F X w (sV va ms c) w va c ms) := WrS.start h
  have HK := fork_is (F := F) (X := X) (w := w) (v0 := sV va ms c)
  have HJ := bare_is (F := F) (X := X) (w := w) (v0 := sV va ms c) (t := .jump 0) (k1 := 5) (k2 := 0) (k3 := 0) (k4 := 0) rfl (fun _ _ e => by cases e)
  have hKl : ms.length ≤ 2000 := by omega
  generalize hyl : (emitN y (ms.length + 1)).length = ly at *
  generalize hzl : (emitN z (ms.length + 2 + ly)).length = lz at *
  -- the parts
  have HWy : Hid (∀ W va1 c1 M1, M1 = ms ++ [bare (.fork 0 0)] → WrS F X w (sV va ms c) W va1 c1 M1 → NdAt W F y x1 → Calls Tryd.prog 26 #[.pointer (some ⟨X, 0, none⟩), .pointer (some ⟨x1, 0, none⟩)] W fun e w' => e = .returned (.tuple #[]) ∧ ∃ va2 c2 M2 ma, WrS F X w (sV va ms c) w' va2 c2 M2 ∧ M2 = ms ++ bare (.fork 0 0) :: ma ∧ ma.map Ms.st = emitN y (ms.length + 1) ∧ M2.length = ms.length + 1 + ly) := fun W va1 c1 M1 hM H hx => by
    subst hM
    have hq : (ms ++ [bare (Stp.fork 0 0)]).length = ms.length + 1 := by simp
    refine ((ihy.is hw.1 hgr.1).out W va1 c1 _ H hx (by rw [hq]; omega)).mono ?_
    rintro e w' ⟨he, va2, c2, m2, h1, h2⟩
    rw [hq] at h2
    have h3 := len_app (ms := ms ++ [bare (Stp.fork 0 0)]) h2
    rw [hq] at h3
    exact ⟨he, va2, c2, _, m2, h1, by simp, h2, by omega⟩
  have HLD : Hid (∀ (W : World) (va2 : Option Addr) (c2 : Nat) (M2 M3 ma : List Ms), M2 = ms ++ bare (.fork 0 0) :: ma → M2.length = ms.length + 1 + ly → M3 = M2 ++ [bare (.jump 0)] → WrS F X w (sV va ms c) W va2 c2 M3 → Calls Tryd.prog 37 #[.pointer (some ⟨X, 0, none⟩), .int .i64 ms.length, .int .i64 ((ms.length : Int) + 1), .int .i64 ((M2.length : Int) + 1), .bool false] W fun e w' => e = .returned (.tuple #[]) ∧ ∃ c' M4, WrS F X w (sV va ms c) w' va2 c' M4 ∧ M4 = ms ++ bare (.fork (ms.length + 1) (ms.length + 2 + ly)) :: (ma ++ [bare (.jump 0)])) := fun W va2 c2 M2 M3 ma hM2 hM2l hM3 H => by
    have hM3' : M3 = ms ++ bare (.fork 0 0) :: (ma ++ [bare (.jump 0)]) := by rw [hM3, hM2]; simp
    have hM3l : M3.length = ms.length + 2 + ly := by rw [hM3, List.length_append, hM2l]; simp; omega
    have h9 := (lead_is (F := F) (X := X) (w := w) (v0 := sV va ms c)).out W va2 c2 M3 ms (ma ++ [bare (.jump 0)]) 0 0 ms.length (ms.length + 1) (M2.length + 1) false H hM3' rfl (by omega) (by omega) (by omega)
    refine h9.mono ?_
    rintro e w' ⟨he, c', h1⟩
    refine ⟨he, c', _, h1, ?_⟩
    rw [show M2.length + 1 = ms.length + 2 + ly by omega]
    rfl
  have HWz : Hid (∀ W va1 c1 M4 ma, M4 = ms ++ bare (.fork (ms.length + 1) (ms.length + 2 + ly)) :: (ma ++ [bare (.jump 0)]) → ma.map Ms.st = emitN y (ms.length + 1) → WrS F X w (sV va ms c) W va1 c1 M4 → NdAt W F z x2 → Calls Tryd.prog 26 #[.pointer (some ⟨X, 0, none⟩), .pointer (some ⟨x2, 0, none⟩)] W fun e w' => e = .returned (.tuple #[]) ∧ ∃ va2 c2 M5 mb, WrS F X w (sV va ms c) w' va2 c2 M5 ∧ M5 = (ms ++ bare (.fork (ms.length + 1) (ms.length + 2 + ly)) :: ma) ++ bare (.jump 0) :: mb ∧ mb.map Ms.st = emitN z (ms.length + 2 + ly) ∧ M5.length = ms.length + 2 + ly + lz) := fun W va1 c1 M4 ma hM hma H hx => by
    subst hM
    have hmal : ma.length = ly := by rw [← hyl, ← hma, List.length_map]
    have hq : (ms ++ bare (.fork (ms.length + 1) (ms.length + 2 + ly)) :: (ma ++ [bare (Stp.jump 0)])).length = ms.length + 2 + ly := by simp [hmal]; omega
    refine ((ihz.is hw.2 hgr.2).out W va1 c1 _ H hx (by rw [hq]; omega)).mono ?_
    rintro e w' ⟨he, va2, c2, m2, h1, h2⟩
    rw [hq] at h2
    have h3 := len_app (ms := ms ++ bare (.fork (ms.length + 1) (ms.length + 2 + ly)) :: (ma ++ [bare (Stp.jump 0)])) h2
    rw [hq, hzl] at h3
    exact ⟨he, va2, c2, _, m2, h1, by simp, h2, by omega⟩
  -- the jump's end
  have HT : Hid (∀ (W W' : World) (g c5 : Nat) (M5 ma mb : List Ms), M5 = (ms ++ bare (.fork (ms.length + 1) (ms.length + 2 + ly)) :: ma) ++ bare (.jump 0) :: mb → ma.map Ms.st = emitN y (ms.length + 1) → mb.map Ms.st = emitN z (ms.length + 2 + ly) → M5.length = ms.length + 2 + ly + lz → WrS F X w (sV va ms c) W (some ⟨g, 0, none⟩) c5 M5 → W' = W.setCell ⟨g, (ms.length + 1 + ly) * 5 + 3, none⟩ (.int .i64 M5.length) → WrD F X w (sV va ms c) ms (.fork (ms.length + 1) (ms.length + 2 + ly) :: (emitN y (ms.length + 1) ++ .jump (ms.length + 2 + ly + lz) :: emitN z (ms.length + 2 + ly))) W'.drew) := fun W W' g c5 M5 ma mb hM5 hma hmb hM5l H hW => by
    have hmal : ma.length = ly := by rw [← hyl, ← hma, List.length_map]
    have hq : (ms ++ bare (.fork (ms.length + 1) (ms.length + 2 + ly)) :: ma).length = ms.length + 1 + ly := by simp [hmal]; omega
    rw [hM5] at H
    obtain ⟨t1, t2⟩ := H.a.turn1 (t := .jump M5.length) (x := M5.length) rfl (fun _ _ e => by cases e) (W' := W') (by rw [hq]; exact hW)
    refine ⟨some ⟨g, 0, none⟩, c5, bare (.fork (ms.length + 1) (ms.length + 2 + ly)) :: (ma ++ bare (.jump M5.length) :: mb), ⟨?_, ?_⟩, ?_⟩
    · have h9 := t1.drew
      simpa using h9
    · have h9 := (H.k.trans t2).drew
      simpa using h9
    · rw [List.map_cons, List.map_append, List.map_cons, hma, hmb, hM5l]
      rfl
  have HC5 : Hid (∀ (W : World) (va5 : Option Addr) (c5 : Nat) (M5 : List Ms), M5.length = ms.length + 2 + ly + lz → WrS F X w (sV va ms c) W va5 c5 M5 → ∃ g, va5 = some ⟨g, 0, none⟩ ∧ g ≠ X ∧ W.cell? ⟨X, 0, none⟩ = some (.slice (some ⟨g, 0, none⟩) M5.length c5) ∧ (∃ u, W.cell? ⟨g, (ms.length + 1 + ly) * 5 + 3, none⟩ = some u) ∧ W.frozen? ⟨g, (ms.length + 1 + ly) * 5 + 3, none⟩ = false) := fun W va5 c5 M5 hl H => by
    obtain ⟨g, rfl⟩ := H.a.addr (by intro e; rw [e] at hl; simp at hl; omega)
    obtain ⟨r1, r2⟩ := row_cell H.a.row (j := (ms.length + 1 + ly) * 5 + 3) (by omega)
    exact ⟨g, rfl, fun e => H.a.ne (by rw [e]; rfl), H.a.c0, r1, r2⟩
  have hsum : ms.length + ly + lz ≤ 2000 := by omega
  clear h hn hps hx1 hx2 hcell1 hcell2 hw hgr ihy ihz hly hlz hyl hzl
  obtain ⟨q2, q3, q4, -, -⟩ := HF.out w (fun _ _ => rfl)
  go_enter Tryd.func35, Tryd.ntmps35
  go_wp2_with (first
    | (go_at_call 36; refine (HK.out _ _ _ _ HS.out (by omega)).mono ?_; clear HK HS q2 q3 q4; rintro e w1 ⟨rfl, va1, c1, hr⟩; obtain ⟨q2, q3, q4, q5, -⟩ := HF.out w1 (hr.read HA0.out); have HS : Hid (WrS F X w (sV va ms c) w1 va1 c1 (ms ++ [bare (.fork 0 0)]) ∧ NdAt w1 F y x1) := ⟨hr, q5⟩; clear hr q5)
    | (go_at_call 26; refine (HWy.out _ _ _ _ rfl HS.out.1 HS.out.2).mono ?_; clear HWy HS q2 q3 q4; rintro e w2 ⟨rfl, va2, c2, M2, ma, hr, h1, h2, h3⟩; have hM2z : M2.length ≤ 3000 := (by omega); have H3 : Hid (M2.length = ms.length + 1 + ly) := h3; have HS : Hid (WrS F X w (sV va ms c) w2 va2 c2 M2 ∧ M2 = ms ++ bare (.fork 0 0) :: ma ∧ ma.map Ms.st = emitN y (ms.length + 1)) := ⟨hr, h1, h2⟩; clear hr h1 h2 h3)
    | (go_at_call 27; refine (HJ.out _ _ _ _ HS.out.1 (by omega)).mono ?_; clear HJ; rintro e w3 ⟨rfl, va3, c3, hr⟩; obtain ⟨M3, hM3⟩ : ∃ M3, M3 = M2 ++ [bare (.jump 0)] := ⟨_, rfl⟩; rw [← hM3] at hr; have HS3 : Hid (WrS F X w (sV va ms c) w3 va3 c3 M3 ∧ M3 = M2 ++ [bare (.jump 0)] ∧ M2 = ms ++ bare (.fork 0 0) :: ma ∧ ma.map Ms.st = emitN y (ms.length + 1)) := ⟨hr, hM3, HS.out.2⟩; clear hr hM3 HS)
    | (go_at_call 37; refine (HLD.out _ _ _ _ _ _ HS3.out.2.2.1 H3.out HS3.out.2.1 HS3.out.1).mono ?_; clear HLD; rintro e w4 ⟨rfl, c4, M4, hr, hM4⟩; obtain ⟨q2, q3, q4, -, q5⟩ := HF.out w4 (hr.read HA0.out); have HS : Hid (WrS F X w (sV va ms c) w4 va3 c4 M4 ∧ NdAt w4 F z x2 ∧ M4 = ms ++ bare (.fork (ms.length + 1) (ms.length + 2 + ly)) :: (ma ++ [bare (.jump 0)]) ∧ ma.map Ms.st = emitN y (ms.length + 1)) := ⟨hr, q5, hM4, HS3.out.2.2.2⟩; clear hr q5 hM4 HS3)
    | (go_at_call 26; refine (HWz.out _ _ _ _ _ HS.out.2.2.1 HS.out.2.2.2 HS.out.1 HS.out.2.1).mono ?_; clear HWz q2 q3 q4; rintro e w5 ⟨rfl, va5, c5, M5, mb, hr, h1, h2, h5⟩; obtain ⟨g, rfl, hgX, x0, ⟨u, r3⟩, s3⟩ := HC5.out _ _ _ _ h5 hr; rw [← H3.out] at r3 s3; have hM5z : M2.length < M5.length := (by rw [H3.out]; omega); have H5 : Hid (M5.length = ms.length + 2 + ly + lz) := h5; clear h5; have HS5 : Hid (WrS F X w (sV va ms c) w5 (some ⟨g, 0, none⟩) c5 M5 ∧ M5 = (ms ++ bare (.fork (ms.length + 1) (ms.length + 2 + ly)) :: ma) ++ bare (.jump 0) :: mb ∧ mb.map Ms.st = emitN z (ms.length + 2 + ly) ∧ ma.map Ms.st = emitN y (ms.length + 1)) := ⟨hr, h1, h2, HS.out.2.2.2⟩; clear hr h1 h2 HS))
  have hM5y : (M2.length : Int) < M5.length := by omega
  have HKP : Hid (∀ (W : World) (o : Nat) (v : Value), W.cell? ⟨X, 0, none⟩ = some (Value.slice (some ⟨g, 0, none⟩) M5.length c5) → (W.setCell ⟨g, o, none⟩ v).cell? ⟨X, 0, none⟩ = some (Value.slice (some ⟨g, 0, none⟩) M5.length c5)) := fun W o v hW => (World.cell?_of_block (Below.heap_setCell _ _ _ _ (by exact fun e => hgX e.symm))).trans hW
  have HEND : Hid (∀ W', W' = w5.setCell ⟨g, M2.length * 5 + 3, none⟩ (.int .i64 M5.length) → WrD F X w (sV va ms c) ms (.fork (ms.length + 1) (ms.length + 2 + ly) :: (emitN y (ms.length + 1) ++ .jump (ms.length + 2 + ly + lz) :: emitN z (ms.length + 2 + ly))) W'.drew) := fun W' hW' => HT.out w5 W' g c5 M5 ma mb HS5.out.2.1 HS5.out.2.2.2 HS5.out.2.2.1 H5.out HS5.out.1 (by rw [← H3.out]; exact hW')
  clear HT HC5 HS5 H5 H3 HF HA0 hM5z
  go_region_held3 (fun W => W.cell? ⟨X, 0, none⟩ = some (.slice (some ⟨g, 0, none⟩) M5.length c5)) (first | go_keep | exact HKP.out _ _ _ (by assumption) | exact HKP.out _ _ _ (HKP.out _ _ _ (by assumption))) (fail)
  all_goals
    go_wp2
    go_end0
    exact ⟨rfl, HEND.out _ rfl⟩
theorem write_either (y z : Nd) (ihy : WrC y) (ihz : WrC z) : WrC (.either y z) := by
  intro hw hgr F X p w va c ms h hx hl
  have HE : Hid (Calls Tryd.prog 35 #[.pointer (some ⟨X, 0, none⟩), .pointer (some ⟨p, 0, none⟩)] w fun e w' => e = .returned (.tuple #[]) ∧ WrD F X w (sV va ms c) ms (emitN (.either y z) ms.length) w') := writeEither_any y z ihy ihz hw hgr F X p w va c ms h hx hl
  have k7 := cell7 hx
  have hz : (sizeN (.either y z) == 0) = false := by
    unfold WfN at hw
    have h1 := wf_size y hw.1
    have h2 := wf_size z hw.2
    rw [sizeN_either]
    unfold capN
    simp
    omega
  unfold NdAt at hx
  obtain ⟨hp, v, x1, x2, hn, hps, hx1, hx2⟩ := hx
  have k0 : w.cell? ⟨p, 0, none⟩ = some (.int .i64 4) := by rw [cell_of_heap hn]; rfl
  clear h hn hps hx1 hx2 hw hgr hl ihy ihz
  generalize sizeN (.either y z) = Z at *
  go_enter Tryd.func26, Tryd.ntmps26
  go_wp2_with (go_at_call 35; refine HE.out.mono ?_; clear HE; rintro e w1 ⟨rfl, hr⟩; have HR : Hid (WrD F X w (sV va ms c) ms (emitN (.either y z) ms.length) w1) := hr; clear hr)
  go_end0
  exact ⟨rfl, HR.out⟩
end Go.Proofs.YtmbkcmfcdjccoaaDoor
