/- Texts that belong together. -/
import Derived.Test.YtmbkcmfcdjccoaaDoorMP30
/- The steps of an expression: groups; once or more. -/
namespace Go.Proofs.YtmbkcmfcdjccoaaDoor
open Go.RowKit Go.Maps

theorem NdAt.again {w W : World} {F : Nat → Prop} {x : Nd} {p : Nat} (h : NdAt w F x p) (hb : ∀ j, F j → W.heap[j]? = w.heap[j]?) : NdAt W F x p := NdAt.to (fun _ h => h) hb x p h
theorem len_app {ms m2 : List Ms} {l : List Stp} (h : m2.map Ms.st = l) : (ms ++ m2).length = ms.length + l.length := by rw [List.length_append, ← h, List.length_map]

set_option maxRecDepth 100000 in
set_option maxHeartbeats 4000000 in
theorem write_group (n : Nat) (y : Nd) (ih : WrC y) : WrC (.group n y) := by
  intro hw hgr F X p w va c ms h hx hl
  unfold WfN at hw
  unfold GrN at hgr
  obtain ⟨g1, g2, g3⟩ := hgr
  have hz := wf_size y hw
  have hem : emitN (.group n y) ms.length = .note (2 * n) :: (emitN y (ms.length + 1) ++ [.note (2 * n + 1)]) := by rw [emitN]
  have hlen := emit_len y hw
  rw [sizeN_group] at hl
  unfold NdAt at hx
  obtain ⟨hp, v, x, hn, hps, hx⟩ := hx
  rw [sizeN_group] at hn
  have hcap : capN (sizeN y + 2) = sizeN y + 2 := by unfold capN at hl ⊢; omega
  rw [hcap] at hl hn
  obtain ⟨gb, gc, rfl, hgF, hcell⟩ := hps.get (i := 0) (by simp)
  have HF : Hid (∀ W : World, (∀ j, F j → W.heap[j]? = w.heap[j]?) → W.cell? ⟨p, 2, none⟩ = some (.slice (some ⟨gb, 0, none⟩) 1 gc) ∧ W.cell? ⟨p, 3, none⟩ = some (.int .i64 n) ∧ W.cell? ⟨gb, 0, none⟩ = some (.pointer (some ⟨x, 0, none⟩)) ∧ NdAt W F y x) := fun W hW => by
    have hnW := (hW p hp).trans hn
    exact ⟨by rw [cell_of_heap hnW]; rfl, by rw [cell_of_heap hnW]; rfl, hcell W hW, hx.again hW⟩
  have k7 : w.cell? ⟨p, 7, none⟩ = some (.int .i64 (sizeN y + 2)) := by rw [cell_of_heap hn]; rfl
  have k0 : w.cell? ⟨p, 0, none⟩ = some (.int .i64 5) := by rw [cell_of_heap hn]; rfl
  obtain ⟨-, k3, -, -⟩ := HF.out w (fun _ _ => rfl)
  have HA0 : Hid (WrA F X w va c ms) := h
  have HS : Hid (WrS F X w (sV va ms c) w va c ms) := WrS.start h
  have HN1 := bare_is (F := F) (X := X) (w := w) (v0 := sV va ms c) (t := .note (2 * n)) (k1 := 3) (k2 := 2 * (n : Int)) (k3 := 0) (k4 := 0) (by unfold stK; simp) (fun _ _ e => by cases e)
  have HN2 := bare_is (F := F) (X := X) (w := w) (v0 := sV va ms c) (t := .note (2 * n + 1)) (k1 := 3) (k2 := 2 * (n : Int) + 1) (k3 := 0) (k4 := 0) (by unfold stK; simp) (fun _ _ e => by cases e)
  have HW := ih.is hw g3 (F := F) (X := X) (w := w) (v0 := sV va ms c) (p := x)
  have hz0 : (sizeN y + 2 == 0) = false := by simp; omega
  have hnz : (n : Int) ≤ 10000 := by omega
  have hb1 : (((ms ++ [bare (.note (2 * n))]).length : Nat) : Int) + sizeN y ≤ 2000 := by rw [List.length_append]; simp; omega
  have hq : (ms ++ [bare (Stp.note (2 * n))]).length = ms.length + 1 := by simp
  have hl1 : ms.length ≤ 100000 := by omega
  have hl2 : ∀ m2 : List Ms, m2.map Ms.st = emitN y (ms.length + 1) → ((ms ++ [bare (.note (2 * n))]) ++ m2).length ≤ 100000 := fun m2 h2 => by
    rw [len_app h2, hq]
    have := hlen (by omega) (ms.length + 1)
    omega
  have HL2 : Hid (∀ m2 : List Ms, m2.map Ms.st = emitN y (ms.length + 1) → ((ms ++ [bare (.note (2 * n))]) ++ m2).length ≤ 100000) := hl2
  have HB1 : Hid ((((ms ++ [bare (.note (2 * n))]).length : Nat) : Int) + sizeN y ≤ 2000 ∧ (ms ++ [bare (Stp.note (2 * n))]).length = ms.length + 1) := ⟨hb1, hq⟩
  clear h hn hps hx hcell hb1 hlen hl2 hq
  rw [hem]
  clear hem
  generalize sizeN y = Z at *
  go_enter Tryd.func26, Tryd.ntmps26
  go_wp2_with (first
    | (go_at_call 27; refine (HN1.out _ _ _ _ HS.out hl1).mono ?_; clear HN1 HS; rintro e w1 ⟨rfl, va1, c1, hr⟩; obtain ⟨q2, q3, q4, q5⟩ := HF.out w1 (hr.read HA0.out); have HS : Hid (WrS F X w (sV va ms c) w1 va1 c1 (ms ++ [bare (.note (2 * n))]) ∧ NdAt w1 F y x) := ⟨hr, q5⟩; clear hr q5 k0 k7 k3)
    | (go_at_call 26; refine (HW.out _ _ _ _ HS.out.1 HS.out.2 HB1.out.1).mono ?_; clear HW HS q2 q3 q4; rintro e w2 ⟨rfl, va2, c2, m2, hr, hm⟩; rw [HB1.out.2] at hm; obtain ⟨q2, q3, q4, q5⟩ := HF.out w2 (hr.read HA0.out); have HS : Hid (WrS F X w (sV va ms c) w2 va2 c2 ((ms ++ [bare (.note (2 * n))]) ++ m2)) := hr; have HM : Hid (m2.map Ms.st = emitN y (ms.length + 1)) := hm; clear hr q5 hm)
    | (go_at_call 27; refine (HN2.out _ _ _ _ HS.out (HL2.out _ HM.out)).mono ?_; clear HN2 HS q2 q3 q4; rintro e w3 ⟨rfl, va3, c3, hr⟩; have HS : Hid (WrS F X w (sV va ms c) w3 va3 c3 (((ms ++ [bare (.note (2 * n))]) ++ m2) ++ [bare (.note (2 * n + 1))])) := hr; clear hr))
  go_end0
  refine ⟨rfl, va3, c3, bare (.note (2 * n)) :: (m2 ++ [bare (.note (2 * n + 1))]), ?_, ?_⟩
  · have h9 := HS.out
    simpa using h9
  · rw [List.map_cons, List.map_append, HM.out]
    rfl

set_option maxRecDepth 100000 in
set_option maxHeartbeats 4000000 in
theorem write_plus (y : Nd) (lz : Bool) (ih : WrC y) : WrC (.plus y lz) := by
  intro hw hgr F X p w va c ms h hx hl
  unfold WfN at hw
  unfold GrN at hgr
  have hz := wf_size y hw
  have hem : emitN (.plus y lz) ms.length = emitN y ms.length ++ [forkS lz ms.length (ms.length + (emitN y ms.length).length + 1)] := by rw [emitN]
  have hlen := emit_len y hw
  rw [sizeN_plus] at hl
  unfold NdAt at hx
  obtain ⟨hp, v, x, hn, hps, hx⟩ := hx
  rw [sizeN_plus] at hn
  have hcap : capN (sizeN y + 1) = sizeN y + 1 := by unfold capN at hl ⊢; omega
  rw [hcap] at hl hn
  obtain ⟨gb, gc, rfl, hgF, hcell⟩ := hps.get (i := 0) (by simp)
  have HF : Hid (∀ W : World, (∀ j, F j → W.heap[j]? = w.heap[j]?) → W.cell? ⟨p, 6, none⟩ = some (.bool lz)) := fun W hW => by
    have hnW := (hW p hp).trans hn
    rw [cell_of_heap hnW]; rfl
  have k7 : w.cell? ⟨p, 7, none⟩ = some (.int .i64 (sizeN y + 1)) := by rw [cell_of_heap hn]; rfl
  have k0 : w.cell? ⟨p, 0, none⟩ = some (.int .i64 6) := by rw [cell_of_heap hn]; rfl
  have k2 : w.cell? ⟨p, 2, none⟩ = some (.slice (some ⟨gb, 0, none⟩) 1 gc) := by rw [cell_of_heap hn]; rfl
  have k9 : w.cell? ⟨gb, 0, none⟩ = some (.pointer (some ⟨x, 0, none⟩)) := hcell w (fun _ _ => rfl)
  have x0 := h.c0
  have HA0 : Hid (WrA F X w va c ms) := h
  have HS : Hid (WrS F X w (sV va ms c) w va c ms ∧ NdAt w F y x) := ⟨WrS.start h, hx⟩
  have HK := fork_is (F := F) (X := X) (w := w) (v0 := sV va ms c)
  have HW := ih.is hw hgr (F := F) (X := X) (w := w) (v0 := sV va ms c) (p := x)
  have hz0 : (sizeN y + 1 == 0) = false := by simp; omega
  have hb1 : (ms.length : Int) + sizeN y ≤ 2000 := by omega
  have HLE : Hid (∀ M1 m2 : List Ms, M1 = ms ++ m2 → m2.map Ms.st = emitN y ms.length → M1.length = ms.length + (emitN y ms.length).length ∧ M1.length ≤ 2000) := fun M1 m2 h1 h2 => by
    rw [h1, len_app h2]
    have := hlen (by omega) ms.length
    exact ⟨rfl, by omega⟩
  have hml : ms.length ≤ 2000 := by omega
  have HLD : Hid (∀ (W : World) (va2 : Option Addr) (c2 : Nat) (M1 : List Ms), M1.length ≤ 2000 → WrS F X w (sV va ms c) W va2 c2 (M1 ++ [bare (.fork 0 0)]) → Calls Tryd.prog 37 #[.pointer (some ⟨X, 0, none⟩), .int .i64 M1.length, .int .i64 ms.length, .int .i64 ((M1.length : Int) + 1), .bool lz] W fun e w' => e = .returned (.tuple #[]) ∧ ∃ c', WrS F X w (sV va ms c) w' va2 c' (M1 ++ [bare (forkS lz ms.length (M1.length + 1))])) := fun W va2 c2 M1 h9 H =>
    (lead_is (F := F) (X := X) (w := w) (v0 := sV va ms c)).out W va2 c2 _ M1 [] 0 0 M1.length ms.length (M1.length + 1) lz H rfl rfl (by rw [List.length_append]; simp; omega) (by omega) (by omega)
  clear h hn hps hx hcell hlen
  rw [hem]
  clear hem
  generalize sizeN y = Z at *
  go_enter Tryd.func26, Tryd.ntmps26
  go_wp2_with (first
    | (go_at_call 26; refine (HW.out _ _ _ _ HS.out.1 HS.out.2 hb1).mono ?_; clear HW HS k0 k7 k2 k9 x0; rintro e w1 ⟨rfl, va2, c2, m2, hr, hm⟩; obtain ⟨M1, hM1⟩ : ∃ M1, M1 = ms ++ m2 := ⟨_, rfl⟩; rw [← hM1] at hr; obtain ⟨hM2, hM3⟩ := HLE.out M1 m2 hM1 hm; have HS : Hid (WrS F X w (sV va ms c) w1 va2 c2 M1) := hr; have HM : Hid (M1 = ms ++ m2 ∧ m2.map Ms.st = emitN y ms.length ∧ M1.length = ms.length + (emitN y ms.length).length) := ⟨hM1, hm, hM2⟩; clear hr hm hM1 hM2)
    | (go_at_call 36; refine (HK.out _ _ _ _ HS.out (Nat.le_trans hM3 (by decide))).mono ?_; clear HK HS; rintro e w2 ⟨rfl, va3, c3, hr⟩; have q6 := HF.out w2 (hr.read HA0.out); have HS : Hid (WrS F X w (sV va ms c) w2 va3 c3 (M1 ++ [bare (.fork 0 0)])) := hr; clear hr)
    | (go_at_call 37; refine (HLD.out _ _ _ M1 hM3 HS.out).mono ?_; clear HLD HS; rintro e w3 ⟨rfl, c4, hr⟩; have HS : Hid (WrS F X w (sV va ms c) w3 va3 c4 (M1 ++ [bare (forkS lz ms.length (M1.length + 1))])) := hr; clear hr))
  go_end0
  obtain ⟨e1, e2, e3⟩ := HM.out
  refine ⟨rfl, va3, c4, m2 ++ [bare (forkS lz ms.length (M1.length + 1))], ?_, ?_⟩
  · have h9 := HS.out
    rw [e1, List.append_assoc] at h9
    rw [e1]
    exact h9
  · rw [List.map_append, e2, e3]
    rfl
end Go.Proofs.YtmbkcmfcdjccoaaDoor

/- The steps of an expression: rows. -/
namespace Go.Proofs.YtmbkcmfcdjccoaaDoor
open Go.RowKit Go.Maps

theorem sizesN_app : ∀ (l m : List Nd) (n : Int), sizesN (l ++ m) n = sizesN m (sizesN l n)
  | [], m, n => by
    show sizesN m n = sizesN m (sizesN [] n)
    rw [show sizesN [] n = n by rw [sizesN]]
  | a :: t, m, n => by
    show sizesN (a :: (t ++ m)) n = _
    rw [sizesN, sizesN_app t m, sizesN]
theorem emitsN_app : ∀ (l : List Nd) (a : Nd) (p : Nat), emitsN (l ++ [a]) p = emitsN l p ++ emitN a (p + (emitsN l p).length)
  | [], a, p => by
    show emitsN [a] p = _
    rw [emitsN, emitsN, emitsN]
    simp
  | b :: t, a, p => by
    show emitsN (b :: (t ++ [a])) p = _
    rw [emitsN, emitsN_app t a, emitsN, List.length_append, List.append_assoc, Nat.add_assoc]
theorem wfs_mem : ∀ {l : List Nd} {x : Nd}, WfsN l → x ∈ l → WfN x
  | a :: t, x, h, hx => by
    unfold WfsN at h
    rcases List.mem_cons.1 hx with rfl | hx
    · exact h.1
    · exact wfs_mem h.2 hx
theorem grs_mem {k : Nat} : ∀ {l : List Nd} {x : Nd}, GrsN k l → x ∈ l → GrN k x
  | a :: t, x, h, hx => by
    unfold GrsN at h
    rcases List.mem_cons.1 hx with rfl | hx
    · exact h.1
    · exact grs_mem h.2 hx
theorem wfs_take : ∀ (i : Nat) (l : List Nd), WfsN l → WfsN (l.take i)
  | 0, l, _ => by simp only [List.take_zero]; unfold WfsN; trivial
  | i + 1, [], _ => by simp only [List.take_nil]; unfold WfsN; trivial
  | i + 1, a :: t, h => by
    unfold WfsN at h
    simp only [List.take_succ_cons]
    unfold WfsN
    exact ⟨h.1, wfs_take i t h.2⟩
theorem wfs_drop : ∀ (i : Nat) (l : List Nd), WfsN l → WfsN (l.drop i)
  | 0, l, h => by simpa using h
  | i + 1, [], _ => by simp only [List.drop_nil]; unfold WfsN; trivial
  | i + 1, a :: t, h => by
    unfold WfsN at h
    simp only [List.drop_succ_cons]
    exact wfs_drop i t h.2
theorem NdsAt.len {w : World} {F : Nat → Prop} : ∀ {l : List Nd} {ps : List Nat}, NdsAt w F l ps → ps.length = l.length
  | [], ps, h => by
    unfold NdsAt at h
    rw [h]
    rfl
  | a :: t, ps, h => by
    unfold NdsAt at h
    obtain ⟨x, qs, rfl, h1, h2⟩ := h
    simp [NdsAt.len h2]
theorem NdsAt.get {w : World} {F : Nat → Prop} : ∀ {l : List Nd} {ps : List Nat} (_ : NdsAt w F l ps) (i : Nat) (hi : i < l.length) (hp : i < ps.length), NdAt w F l[i] ps[i]
  | a :: t, ps, h, i, hi, hp => by
    unfold NdsAt at h
    obtain ⟨x, qs, rfl, h1, h2⟩ := h
    cases i with
    | zero => exact h1
    | succ i => exact NdsAt.get h2 i (by simpa using hi) (by simpa using hp)
/-- How much of a row is written ahead of a part. -/
theorem row_room {l : List Nd} (h : WfsN l) (hz : sizesN l 0 ≤ 2000) {i : Nat} (hi : i < l.length) (p : Nat) : ((emitsN (l.take i) p).length : Int) + sizeN l[i] ≤ sizesN l 0 := by
  have e1 : l.take i ++ (l[i] :: l.drop (i + 1)) = l := by rw [← List.drop_eq_getElem_cons hi, List.take_append_drop]
  have h1 := wfs_take i l h
  have h2 := wfs_mem h (List.getElem_mem hi)
  have h3 := wfs_drop (i + 1) l h
  have hs := wf_size _ h2
  have hs0 := wfs_size _ h1 0 (Int.le_refl _)
  have e2 : sizesN l 0 = sizesN (l.drop (i + 1)) (capN (sizesN (l.take i) 0 + sizeN l[i])) := by
    conv => lhs; rw [← e1]
    rw [sizesN_app, sizesN]
  have hge := sizesN_ge (l.drop (i + 1)) (capN (sizesN (l.take i) 0 + sizeN l[i])) h3 (by unfold capN; omega)
  rw [← e2] at hge
  have hc : capN (sizesN (l.take i) 0 + sizeN l[i]) = sizesN (l.take i) 0 + sizeN l[i] := by unfold capN at hge ⊢; omega
  rw [hc] at hge
  have e3 := emits_len (l.take i) h1 0 (Int.le_refl _) (by omega) p
  omega

set_option maxRecDepth 100000 in
set_option maxHeartbeats 1000000 in
theorem write_none {x : Nd} (hw : WfN x) (hz : sizeN x = 0) {F : Nat → Prop} {X p : Nat} {w : World} {va : Option Addr} {c : Nat} {ms : List Ms} (h : WrA F X w va c ms) (hx : NdAt w F x p) :
    Calls Tryd.prog 26 #[.pointer (some ⟨X, 0, none⟩), .pointer (some ⟨p, 0, none⟩)] w fun e w' => e = .returned (.tuple #[]) ∧ WrD F X w (sV va ms c) ms (emitN x ms.length) w' := by
  have hem := emit_nil hw hz ms.length
  rw [hem]
  have k7 := cell7 hx
  rw [hz] at k7
  have HS : Hid (WrS F X w (sV va ms c) w va c ms) := WrS.start h
  clear h hx hem hz
  go_enter Tryd.func26, Tryd.ntmps26
  go_wp2
  ((try simp only [Exit.inBlock, Exit.then]); refine bodyPost_ret (results_none rfl _ _ _) rfl ?_)
  exact ⟨rfl, va, c, [], by rw [List.append_nil]; exact HS.out, rfl⟩

set_option maxRecDepth 100000 in
set_option maxHeartbeats 2000000 in
theorem write_row (l : List Nd) (ih : ∀ y ∈ l, WrC y) : WrC (.row l) := by
  intro hw hgr F X p w va c ms h hx hl
  by_cases hz : sizeN (.row l) = 0
  · exact write_none hw hz h hx
  · have hsz : sizeN (.row l) = sizesN l 0 := by rw [sizeN]
    have hem : emitN (.row l) ms.length = emitsN l ms.length := by rw [emitN]
    rw [hem]
    have hx0 := hx
    unfold NdAt at hx
    obtain ⟨hp, v, ps, hn, hps, hnds⟩ := hx
    unfold WfN at hw
    unfold GrN at hgr
    have hlen := hnds.len
    obtain ⟨pa, pc, rfl⟩ := slice_of_row hps.1
    have k7 : w.cell? ⟨p, 7, none⟩ = some (.int .i64 (sizeN (.row l))) := by rw [cell_of_heap hn]; rfl
    have k0 : w.cell? ⟨p, 0, none⟩ = some (.int .i64 3) := by rw [cell_of_heap hn]; rfl
    have k2 : w.cell? ⟨p, 2, none⟩ = some (.slice pa ps.length pc) := by rw [cell_of_heap hn]; rfl
    have hz0 : (sizeN (.row l) == 0) = false := by simpa using hz
    have HG : Hid (∀ i (hi : i < l.length), ∃ g x, pa = some ⟨g, 0, none⟩ ∧ ∀ W, (∀ j, F j → W.heap[j]? = w.heap[j]?) → W.cell? ⟨g, i, none⟩ = some (.pointer (some ⟨x, 0, none⟩)) ∧ NdAt W F l[i] x) := fun i hi => by
      obtain ⟨g, c', e1, hF, h3⟩ := hps.get (i := i) (by omega)
      injection e1 with e1
      exact ⟨g, ps[i]'(by omega), e1, fun W hW => ⟨h3 W hW, (hnds.get i hi (by omega)).again hW⟩⟩
    rw [hlen] at k2
    have hln : l.length ≤ maxLen := by
      rcases hps.1.2 with ⟨_, h2⟩ | ⟨g, cap, cur, e1, h2, h3, h4, h5, _⟩
      · omega
      · omega
    unfold maxLen at hln
    have HA0 : Hid (WrA F X w va c ms) := h
    have HS : Hid (WrS F X w (sV va ms c) w va c ms) := WrS.start h
    have HW : Hid (∀ (i : Nat) (hi : i < l.length) (W : World) (va1 : Option Addr) (c1 x : Nat) (M1 m2 : List Ms), WrS F X w (sV va ms c) W va1 c1 M1 → M1 = ms ++ m2 → m2.map Ms.st = emitsN (l.take i) ms.length → NdAt W F l[i] x → Calls Tryd.prog 26 #[.pointer (some ⟨X, 0, none⟩), .pointer (some ⟨x, 0, none⟩)] W fun e w' => e = .returned (.tuple #[]) ∧ ∃ va2 c2 m3, WrS F X w (sV va ms c) w' va2 c2 (ms ++ m3) ∧ m3.map Ms.st = emitsN (l.take (i + 1)) ms.length) := fun i hi W va1 c1 x M1 m2 H hM hm hx => by
      subst hM
      have hroom := row_room hw (by omega) hi ms.length
      have hlm := len_app (ms := ms) hm
      refine (((ih _ (List.getElem_mem hi)).is (wfs_mem hw (List.getElem_mem hi)) (grs_mem hgr (List.getElem_mem hi))).out W va1 c1 (ms ++ m2) H hx (by omega)).mono ?_
      rintro e w' ⟨he, va2, c2, m3, h1, h2⟩
      refine ⟨he, va2, c2, m2 ++ m3, by rw [← List.append_assoc]; exact h1, ?_⟩
      rw [List.take_succ_eq_append_getElem hi, emitsN_app, List.map_append, hm, h2, hlm]
    have hid : l.take l.length = l := List.take_length
    generalize sizeN (.row l) = Z at *
    clear h hn hps hnds hx0 ih hw hgr hsz hlen hz
    have hem2 : emitsN l ms.length = emitsN (l.take l.length) ms.length := by rw [hid]
    rw [hem2]
    clear hem2 hem hid
    obtain ⟨N, hN⟩ : ∃ N, N = l.length := ⟨_, rfl⟩
    rw [← hN] at k2 hln ⊢
    go_enter Tryd.func26, Tryd.ntmps26
    go_wp2
    go_loopw [43] (fun iv wr => ∃ (i : Nat) (va1 : Option Addr) (c1 : Nat) (M1 : List Ms), iv = .int .i64 i ∧ i ≤ N ∧ Hid (WrS F X w (sV va ms c) wr va1 c1 M1) ∧ Hid (∃ m2, M1 = ms ++ m2 ∧ m2.map Ms.st = emitsN (l.take i) ms.length)) (fun iv _ => N - (intOf iv).toNat)
    case atStart => exact ⟨0, va, c, ms, rfl, Nat.zero_le _, HS, [], by simp, by simp [emitsN]⟩
    case round =>
      clear HS k0 k2 k7
      obtain ⟨i, va1, c1, M1, rfl, hi, HS, HM⟩ := hrel
      by_cases hlt : i < N
      · have hltz : (i : Int) < N := by omega
        have hll : i < l.length := by omega
        obtain ⟨g, x, rfl, hg⟩ := HG.out i hll
        obtain ⟨q1, q2⟩ := hg wr (HS.out.read HA0.out)
        have HX : Hid (NdAt wr F l[i] x) := q2
        obtain ⟨m2, hM1, hm2⟩ := HM.out
        have HC := HW.out i hll wr va1 c1 x M1 m2 HS.out hM1 hm2 q2
        have HC : Hid (Calls Tryd.prog 26 #[.pointer (some ⟨X, 0, none⟩), .pointer (some ⟨x, 0, none⟩)] wr fun e w' => e = .returned (.tuple #[]) ∧ ∃ va2 c2 m3, WrS F X w (sV va ms c) w' va2 c2 (ms ++ m3) ∧ m3.map Ms.st = emitsN (l.take (i + 1)) ms.length) := HC
        clear hg q2 hM1 hm2 HM HG HW HS
        go_wp2_with (go_at_call 26; refine HC.out.mono ?_; clear HC q1; rintro e w2 ⟨rfl, va2, c2, m3, h1, h2⟩; have HS : Hid (WrS F X w (sV va ms c) w2 va2 c2 (ms ++ m3) ∧ m3.map Ms.st = emitsN (l.take (i + 1)) ms.length) := ⟨h1, h2⟩; clear h1 h2)
        go_roundw
        case rel => exact ⟨i + 1, va2, c2, ms ++ m3, by go_num, by omega, HS.out.1, m3, rfl, HS.out.2⟩
        case measure => simp [intOf]; omega
      · obtain rfl : i = N := by omega
        clear HG HW
        go_wp2
        go_end0
        obtain ⟨m2, hM1, hm2⟩ := HM.out
        subst hM1
        exact ⟨rfl, va1, c1, m2, HS.out, hm2⟩
end Go.Proofs.YtmbkcmfcdjccoaaDoor
