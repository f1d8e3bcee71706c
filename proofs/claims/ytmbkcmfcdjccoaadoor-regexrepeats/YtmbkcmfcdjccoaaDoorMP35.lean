/- Texts that belong together. -/
import Derived.Test.YtmbkcmfcdjccoaaDoorMP34
/- The steps of an expression: repeats without an end. -/
namespace Go.Proofs.YtmbkcmfcdjccoaaDoor
open Go.RowKit Go.Maps

theorem copies_snoc (f : Nat → List Stp) : ∀ n p, copiesS f (n + 1) p = copiesS f n p ++ f (p + (copiesS f n p).length)
  | 0, p => by
    show f p ++ copiesS f 0 _ = copiesS f 0 p ++ f (p + (copiesS f 0 p).length)
    unfold copiesS
    simp
  | n + 1, p => by
    rw [copiesS, copies_snoc f n, copiesS, List.length_append, List.append_assoc, Nat.add_assoc]
theorem opts_snoc (f : Nat → List Stp) (t : Nat → Stp) : ∀ n p, optsS f t (n + 1) p = optsS f t n p ++ t (p + (optsS f t n p).length) :: f (p + (optsS f t n p).length + 1)
  | 0, p => by
    show t p :: (f (p + 1) ++ optsS f t 0 _) = optsS f t 0 p ++ _
    unfold optsS
    simp
  | n + 1, p => by
    rw [optsS, opts_snoc f t n, optsS]
    have e : p + 1 + (f (p + 1)).length + (optsS f t n (p + 1 + (f (p + 1)).length)).length = p + (t p :: (f (p + 1) ++ optsS f t n (p + 1 + (f (p + 1)).length))).length := by simp; omega
    rw [e]
    simp
theorem opts_congr {f : Nat → List Stp} {t u : Nat → Stp} {z : Nat} (hf : ∀ p, (f p).length = z) : ∀ n p, (∀ i, i < n → t (p + i * (z + 1)) = u (p + i * (z + 1))) → optsS f t n p = optsS f u n p
  | 0, p, _ => rfl
  | n + 1, p, h => by
    rw [optsS, optsS]
    have h0 := h 0 (by omega)
    simp only [Nat.zero_mul, Nat.add_zero] at h0
    have ih := opts_congr (t := t) (u := u) hf n (p + 1 + (f (p + 1)).length) (fun i hi => by
      have h1 := h (i + 1) (by omega)
      rw [hf]
      have e : p + 1 + z + i * (z + 1) = p + (i + 1) * (z + 1) := by rw [Nat.succ_mul]; omega
      rw [e]
      exact h1)
    rw [h0, ih]
theorem opts_get {f : Nat → List Stp} {t : Nat → Stp} {z : Nat} (hf : ∀ p, (f p).length = z) : ∀ n p j, j < n → (optsS f t n p)[j * (z + 1)]? = some (t (p + j * (z + 1)))
  | 0, p, j, h => absurd h (Nat.not_lt_zero _)
  | n + 1, p, 0, h => by
    rw [optsS]
    simp
  | n + 1, p, j + 1, h => by
    rw [optsS]
    have e : (j + 1) * (z + 1) = (z + j * (z + 1)) + 1 := by rw [Nat.succ_mul]; omega
    rw [e, List.getElem?_cons_succ, List.getElem?_append_right (by rw [hf]; omega), hf]
    have e2 : z + j * (z + 1) - z = j * (z + 1) := by omega
    rw [e2, opts_get hf n _ j (by omega)]
    congr 2
    omega
theorem opts_set {f : Nat → List Stp} {z : Nat} (hf : ∀ p, (f p).length = z) (s : Stp) : ∀ (t : Nat → Stp) n p j, j < n → (optsS f t n p).set (j * (z + 1)) s = optsS f (fun q => if q = p + j * (z + 1) then s else t q) n p
  | t, 0, p, j, h => absurd h (Nat.not_lt_zero _)
  | t, n + 1, p, 0, h => by
    rw [optsS, optsS]
    simp only [Nat.zero_mul, Nat.add_zero, if_true, List.set_cons_zero]
    rw [opts_congr hf n (p + 1 + (f (p + 1)).length) (t := t) (u := fun q => if q = p then s else t q) (fun i hi => by
      have : ¬ p + 1 + (f (p + 1)).length + i * (z + 1) = p := by omega
      simp only [if_neg this])]
  | t, n + 1, p, j + 1, h => by
    rw [optsS, optsS]
    have e : (j + 1) * (z + 1) = (z + j * (z + 1)) + 1 := by rw [Nat.succ_mul]; omega
    have e3 : ¬ p = p + (j + 1) * (z + 1) := by omega
    rw [if_neg e3, e, List.set_cons_succ, List.set_append_right _ _ (by rw [hf]; omega), hf]
    have e2 : z + j * (z + 1) - z = j * (z + 1) := by omega
    rw [e2, opts_set hf s t n _ j (by omega)]
    congr 3
    funext q
    have e4 : p + 1 + z + j * (z + 1) = p + (z + j * (z + 1) + 1) := by omega
    rw [e4]
/-- What a repeat's size says. -/
structure TmR (y : Nd) (lo : Nat) (hi : Int) (z d : Nat) (S : Int) : Prop where
  size : sizeN y = z
  few : z ≤ 2000
  len : ∀ p, (emitN y p).length = z
  all : (hi = -1 ∧ S = ((lo * z + z + 2 : Nat) : Int)) ∨ (hi ≠ -1 ∧ hi = lo + d ∧ S = ((lo * z + d * (z + 1) : Nat) : Int))
theorem times_room {y : Nd} {lo : Nat} {hi : Int} {lz : Bool} (h : WfN (.times y lo hi lz)) (h0 : sizeN (.times y lo hi lz) ≠ 0) (hz : sizeN (.times y lo hi lz) ≤ 2000) : ∃ z d, TmR y lo hi z d (sizeN (.times y lo hi lz)) := by
  unfold WfN at h
  obtain ⟨hw, k1, k2, k3, k4⟩ := h
  have h1 := wf_size y hw
  have ih := emit_len y hw
  obtain ⟨z, hzz⟩ : ∃ z : Nat, sizeN y = z := ⟨(sizeN y).toNat, by omega⟩
  rw [sizeN_times] at h0 hz ⊢
  rw [hzz] at h0 hz ih ⊢
  have hm : (lo : Int) * z = ((lo * z : Nat) : Int) := by simp
  by_cases hne : hi = -1
  · rw [if_pos hne] at hz h0 ⊢
    rw [hm] at hz h0 ⊢
    unfold capN at hz h0 ⊢
    refine ⟨z, 0, hzz, by omega, fun p => by have := ih (by omega) p; omega, Or.inl ⟨hne, by omega⟩⟩
  · rw [if_neg hne] at hz h0 ⊢
    obtain ⟨d, hd⟩ : ∃ d : Nat, hi - lo = d := ⟨(hi - lo).toNat, by omega⟩
    have hm2 : (hi - lo) * ((z : Int) + 1) = ((d * (z + 1) : Nat) : Int) := by rw [hd]; simp
    rw [hm, hm2] at hz h0 ⊢
    unfold capN at hz h0 ⊢
    have hzl : z ≤ 2000 := by
      have q1 : z ≤ lo * z ∨ z ≤ d * (z + 1) := by
        rcases Nat.eq_zero_or_pos lo with h9 | h9
        · rcases Nat.eq_zero_or_pos d with h8 | h8
          · exfalso
            subst h9 h8
            simp at h0
            omega
          · right
            have := Nat.mul_le_mul_right (z + 1) h8
            omega
        · left
          have := Nat.mul_le_mul_right z h9
          omega
      rcases q1 with q1 | q1 <;> omega
    exact ⟨z, d, hzz, hzl, fun p => by have := ih (by omega) p; omega, Or.inr ⟨hne, by omega, by omega⟩⟩
/-- The copies that must be, one by one. -/
theorem copy_one {y : Nd} {_lo z : Nat} (hlen : ∀ p, (emitN y p).length = z) {ms m2 : List Ms} {i : Nat} (hm : m2.map Ms.st = copiesS (emitN y) i ms.length) : (ms ++ m2).length = ms.length + i * z ∧ copiesS (emitN y) (i + 1) ms.length = copiesS (emitN y) i ms.length ++ emitN y (ms ++ m2).length := by
  have h1 : (ms ++ m2).length = ms.length + i * z := by rw [len_app hm, copiesS_len hlen]
  exact ⟨h1, by rw [copies_snoc, copiesS_len hlen, h1]⟩

set_option maxRecDepth 100000 in
set_option maxHeartbeats 1000000 in
theorem writeTimes_open (y : Nd) (lo : Nat) (lz : Bool) (ih : WrC y) (hw : WfN (.times y lo (-1) lz)) (hgr : GrN 10000 (.times y lo (-1) lz)) (h0 : sizeN (.times y lo (-1) lz) ≠ 0) (F : Nat → Prop) (X p : Nat) (w : World) (va : Option Addr) (c : Nat) (ms : List Ms) (h : WrA F X w va c ms) (hx : NdAt w F (.times y lo (-1) lz) p) (hl : (ms.length : Int) + sizeN (.times y lo (-1) lz) ≤ 2000) :
    Calls Tryd.prog 38 #[.pointer (some ⟨X, 0, none⟩), .pointer (some ⟨p, 0, none⟩)] w fun e w' => e = .returned (.tuple #[]) ∧ WrD F X w (sV va ms c) ms (emitN (.times y lo (-1) lz) ms.length) w' := by
  obtain ⟨z, d, hzz, hz, hlen, hall⟩ := times_room hw h0 (by omega)
  have hS : sizeN (.times y lo (-1) lz) = ((lo * z + z + 2 : Nat) : Int) := by
    rcases hall with h9 | h9
    · exact h9.2
    · exact absurd rfl h9.1
  rw [hS] at hl
  unfold WfN at hw
  unfold GrN at hgr
  obtain ⟨hwy, k1, -⟩ := hw
  unfold NdAt at hx
  obtain ⟨hp, v, x, hn, hps, hx⟩ := hx
  obtain ⟨gb, gc, rfl, hgF, hcell⟩ := hps.get (i := 0) (by simp)
  have hem : emitN (.times y lo (-1) lz) ms.length = copiesS (emitN y) lo ms.length ++ (forkS lz (ms.length + lo * z + 1) (ms.length + lo * z + 2 + z) :: (emitN y (ms.length + lo * z + 1) ++ [.jump (ms.length + lo * z)])) := by
    rw [emitN, copiesS_len hlen]
    unfold tailS
    rw [if_pos rfl, hlen]
  rw [hem]
  clear hem
  have HF : Hid (∀ W : World, (∀ j, F j → W.heap[j]? = w.heap[j]?) → W.cell? ⟨p, 6, none⟩ = some (.bool lz) ∧ W.cell? ⟨p, 5, none⟩ = some (.int .i64 (-1)) ∧ NdAt W F y x) := fun W hW => by
    have hnW := (hW p hp).trans hn
    exact ⟨by rw [cell_of_heap hnW]; rfl, by rw [cell_of_heap hnW]; rfl, hx.again hW⟩
  have k2 : w.cell? ⟨p, 2, none⟩ = some (.slice (some ⟨gb, 0, none⟩) 1 gc) := by rw [cell_of_heap hn]; rfl
  have k4 : w.cell? ⟨p, 4, none⟩ = some (.int .i64 lo) := by rw [cell_of_heap hn]; rfl
  have k9 : w.cell? ⟨gb, 0, none⟩ = some (.pointer (some ⟨x, 0, none⟩)) := hcell w (fun _ _ => rfl)
  have HA0 : Hid (WrA F X w va c ms) := h
  have HS : Hid (WrS F X w (sV va ms c) w va c ms) := WrS.start h
  obtain ⟨V, hV⟩ : ∃ V, V = sV va ms c := ⟨_, rfl⟩
  have HW : Hid (∀ W va1 c1 M1, WrS F X w (sV va ms c) W va1 c1 M1 → M1.length + z ≤ 2000 → Calls Tryd.prog 26 #[.pointer (some ⟨X, 0, none⟩), .pointer (some ⟨x, 0, none⟩)] W fun e w' => e = .returned (.tuple #[]) ∧ ∃ va2 c2 m2, WrS F X w (sV va ms c) w' va2 c2 (M1 ++ m2) ∧ m2.map Ms.st = emitN y M1.length) := fun W va1 c1 M1 H hb =>
    (ih.is hwy hgr).out W va1 c1 M1 H (HF.out W (H.read h)).2.2 (by rw [hzz]; omega)
  have hlo : ∀ i, i < lo → i * z + z ≤ lo * z := fun i hi => by
    have := Nat.mul_le_mul_right z (show i + 1 ≤ lo from hi)
    rw [Nat.succ_mul] at this
    exact this
  have HLO : Hid (∀ i, i < lo → i * z + z ≤ lo * z) := hlo
  have HCO : Hid (∀ (i : Nat) (m2 : List Ms), m2.map Ms.st = copiesS (emitN y) i ms.length → (ms ++ m2).length = ms.length + i * z ∧ copiesS (emitN y) (i + 1) ms.length = copiesS (emitN y) i ms.length ++ emitN y (ms ++ m2).length) := fun i m2 hm => copy_one (_lo := lo) hlen hm
  have HLN : Hid (∀ p, (emitN y p).length = z) := hlen
  have hsum : ms.length + lo * z + z + 2 ≤ 2000 := by omega
  clear h hn hps hx hcell hgr hwy ih hlen hlo hall hS h0 hV V hl hzz
  go_enter Tryd.func38, Tryd.ntmps38
  go_wp2
  go_loopw [20] (fun iv wr => ∃ (i : Nat) (va1 : Option Addr) (c1 : Nat) (M1 : List Ms), iv = .int .i64 i ∧ i ≤ lo ∧ Hid (WrS F X w (sV va ms c) wr va1 c1 M1) ∧ Hid (∃ m2, M1 = ms ++ m2 ∧ m2.map Ms.st = copiesS (emitN y) i ms.length)) (fun iv _ => lo - (intOf iv).toNat)
  case atStart => exact ⟨0, va, c, ms, rfl, Nat.zero_le _, HS, [], by simp, by simp [copiesS]⟩
  case round =>
    clear HS k2 k4 k9
    obtain ⟨i, va1, c1, M1, rfl, hi, HS, HM⟩ := hrel
    by_cases hlt : i < lo
    · have hltz : (i : Int) < lo := by omega
      have hroom := HLO.out i hlt
      have HC : Hid (Calls Tryd.prog 26 #[.pointer (some ⟨X, 0, none⟩), .pointer (some ⟨x, 0, none⟩)] wr fun e w' => e = .returned (.tuple #[]) ∧ ∃ va2 c2 M2, WrS F X w (sV va ms c) w' va2 c2 M2 ∧ ∃ m2, M2 = ms ++ m2 ∧ m2.map Ms.st = copiesS (emitN y) (i + 1) ms.length) := by
        obtain ⟨m2, hM1, hm2⟩ := HM.out
        subst hM1
        obtain ⟨e1, e2⟩ := HCO.out i m2 hm2
        refine (HW.out wr va1 c1 (ms ++ m2) HS.out (by omega)).mono ?_
        rintro e w' ⟨he, va2, c2, m3, h1, h2⟩
        exact ⟨he, va2, c2, _, h1, m2 ++ m3, by simp, by rw [List.map_append, hm2, h2, e2]⟩
      clear HW HS HM HF HCO
      go_wp2_with (go_at_call 26; refine HC.out.mono ?_; clear HC; rintro e w2 ⟨rfl, va2, c2, M2, h1, h2⟩; have HS : Hid (WrS F X w (sV va ms c) w2 va2 c2 M2 ∧ ∃ m2, M2 = ms ++ m2 ∧ m2.map Ms.st = copiesS (emitN y) (i + 1) ms.length) := ⟨h1, h2⟩; clear h1 h2)
      go_roundw
      case rel => exact ⟨i + 1, va2, c2, M2, by go_num, by omega, HS.out.1, HS.out.2⟩
      case measure => simp [intOf]; omega
    · obtain rfl : i = lo := by omega
      obtain ⟨q6, q5, -⟩ := HF.out wr (HS.out.read HA0.out)
      have HML : Hid (M1.length = ms.length + i * z) := by
        obtain ⟨m2, hM1, hm2⟩ := HM.out
        rw [hM1]
        exact (HCO.out i m2 hm2).1
      have hMz : M1.length ≤ 2000 := by rw [HML.out]; omega
      have hMz2 : M1.length + z + 2 ≤ 2000 := by rw [HML.out]; omega
      have HK := fork_is (F := F) (X := X) (w := w) (v0 := sV va ms c)
      have HJ := bare_is (F := F) (X := X) (w := w) (v0 := sV va ms c) (t := .jump M1.length) (k1 := 5) (k2 := 0) (k3 := M1.length) (k4 := 0) rfl (fun _ _ e => by cases e)
      have HWy : Hid (∀ W va1 c1 M2, M2 = M1 ++ [bare (.fork 0 0)] → WrS F X w (sV va ms c) W va1 c1 M2 → Calls Tryd.prog 26 #[.pointer (some ⟨X, 0, none⟩), .pointer (some ⟨x, 0, none⟩)] W fun e w' => e = .returned (.tuple #[]) ∧ ∃ va2 c2 M3 ma, WrS F X w (sV va ms c) w' va2 c2 M3 ∧ M3 = M1 ++ bare (.fork 0 0) :: ma ∧ ma.map Ms.st = emitN y (M1.length + 1) ∧ M3.length = M1.length + 1 + z) := fun W va1 c1 M2 hM H => by
        subst hM
        have hq : (M1 ++ [bare (Stp.fork 0 0)]).length = M1.length + 1 := by simp
        refine (HW.out W va1 c1 _ H (by rw [hq]; omega)).mono ?_
        rintro e w' ⟨he, va2, c2, m2, h1, h2⟩
        have h3 := len_app (ms := M1 ++ [bare (Stp.fork 0 0)]) h2
        rw [hq] at h2 h3
        rw [HLN.out] at h3
        exact ⟨he, va2, c2, _, m2, h1, by simp, h2, by omega⟩
      have HLD : Hid (∀ (W : World) (va2 : Option Addr) (c2 : Nat) (M3 M4 ma : List Ms), M3 = M1 ++ bare (.fork 0 0) :: ma → M3.length = M1.length + 1 + z → M4 = M3 ++ [bare (.jump M1.length)] → WrS F X w (sV va ms c) W va2 c2 M4 → Calls Tryd.prog 37 #[.pointer (some ⟨X, 0, none⟩), .int .i64 M1.length, .int .i64 ((M1.length : Int) + 1), .int .i64 ((M3.length : Int) + 1), .bool lz] W fun e w' => e = .returned (.tuple #[]) ∧ ∃ c' M5, WrS F X w (sV va ms c) w' va2 c' M5 ∧ M5 = M1 ++ bare (forkS lz (M1.length + 1) (M1.length + 2 + z)) :: (ma ++ [bare (.jump M1.length)])) := fun W va2 c2 M3 M4 ma hM3 hM3l hM4 H => by
        have hM4' : M4 = M1 ++ bare (.fork 0 0) :: (ma ++ [bare (.jump M1.length)]) := by rw [hM4, hM3]; simp
        have hM4l : M4.length = M1.length + 2 + z := by rw [hM4, List.length_append, hM3l]; simp; omega
        have h9 := (lead_is (F := F) (X := X) (w := w) (v0 := sV va ms c)).out W va2 c2 M4 M1 (ma ++ [bare (.jump M1.length)]) 0 0 M1.length (M1.length + 1) (M3.length + 1) lz H hM4' rfl (by omega) (by omega) (by omega)
        refine h9.mono ?_
        rintro e w' ⟨he, c', h1⟩
        refine ⟨he, c', _, h1, ?_⟩
        rw [show M3.length + 1 = M1.length + 2 + z by omega]
      clear HW hlt HLO HCO hi
      go_wp2_with (first
        | (go_at_call 36; refine (HK.out _ _ _ _ HS.out (by omega)).mono ?_; clear HK HS q5 q6; rintro e w1 ⟨rfl, va3, c3, hr⟩; have HS : Hid (WrS F X w (sV va ms c) w1 va3 c3 (M1 ++ [bare (.fork 0 0)])) := hr; clear hr)
        | (go_at_call 26; refine (HWy.out _ _ _ _ rfl HS.out).mono ?_; clear HWy HS; rintro e w2 ⟨rfl, va4, c4, M3, ma, hr, h1, h2, h3⟩; have hM3z : M3.length ≤ 3000 := (by omega); have HS : Hid (WrS F X w (sV va ms c) w2 va4 c4 M3 ∧ M3 = M1 ++ bare (.fork 0 0) :: ma ∧ ma.map Ms.st = emitN y (M1.length + 1) ∧ M3.length = M1.length + 1 + z) := ⟨hr, h1, h2, h3⟩; clear hr h1 h2 h3)
        | (go_at_call 27; refine (HJ.out _ _ _ _ HS.out.1 (by omega)).mono ?_; clear HJ; rintro e w3 ⟨rfl, va5, c5, hr⟩; obtain ⟨M4, hM4⟩ : ∃ M4, M4 = M3 ++ [bare (.jump M1.length)] := ⟨_, rfl⟩; rw [← hM4] at hr; obtain ⟨q6, -, -⟩ := HF.out w3 (hr.read HA0.out); have HS3 : Hid (WrS F X w (sV va ms c) w3 va5 c5 M4 ∧ M4 = M3 ++ [bare (.jump M1.length)] ∧ M3 = M1 ++ bare (.fork 0 0) :: ma ∧ ma.map Ms.st = emitN y (M1.length + 1) ∧ M3.length = M1.length + 1 + z) := ⟨hr, hM4, HS.out.2⟩; clear hr hM4 HS)
        | (go_at_call 37; refine (HLD.out _ _ _ _ _ _ HS3.out.2.2.1 HS3.out.2.2.2.2 HS3.out.2.1 HS3.out.1).mono ?_; clear HLD; rintro e w4 ⟨rfl, c6, M5, hr, hM5⟩; have HS : Hid (WrS F X w (sV va ms c) w4 va5 c6 M5 ∧ M5 = M1 ++ bare (forkS lz (M1.length + 1) (M1.length + 2 + z)) :: (ma ++ [bare (.jump M1.length)]) ∧ ma.map Ms.st = emitN y (M1.length + 1)) := ⟨hr, hM5, HS3.out.2.2.2.1⟩; clear hr hM5 HS3))
      ((try simp only [Exit.inBlock, Exit.then]); first | refine bodyPost_ret (results_none rfl _ _ _) rfl ?_ | refine bodyPost_end (results_none rfl _ _ _) rfl ?_)
      obtain ⟨m2, hM1, hm2⟩ := HM.out
      obtain ⟨hr, hM5, hma⟩ := HS.out
      refine ⟨rfl, va5, c6, m2 ++ bare (forkS lz (M1.length + 1) (M1.length + 2 + z)) :: (ma ++ [bare (.jump M1.length)]), ?_, ?_⟩
      · rw [← List.append_assoc, ← hM1, ← hM5]
        exact hr
      · rw [List.map_append, hm2, List.map_cons, List.map_append, hma, HML.out]
        rfl
end Go.Proofs.YtmbkcmfcdjccoaaDoor

/- The steps of an expression: repeats with an end. -/
namespace Go.Proofs.YtmbkcmfcdjccoaaDoor
open Go.RowKit Go.Maps

theorem appInt : App Tryd.prog 42 3 1 := App.of (z := .int .i64 0) (bytes := 8) Tryd.underlying42 (by kernel_rfl) rfl (by decide) (by decide)
/-- Where the forks stand. -/
def fkC (Q z i : Nat) : List Value := (List.range i).map fun j => Value.int .i64 ((Q + j * (z + 1) : Nat) : Int)
theorem fkC_succ (Q z i : Nat) : fkC Q z (i + 1) = fkC Q z i ++ [.int .i64 ((Q + i * (z + 1) : Nat) : Int)] := by
  unfold fkC
  rw [List.range_succ, List.map_append]
  rfl
theorem fkC_get {Q z i j : Nat} (h : j < i) : (fkC Q z i)[j]? = some (.int .i64 ((Q + j * (z + 1) : Nat) : Int)) := by
  unfold fkC
  rw [List.getElem?_map, List.getElem?_range h]
  rfl
/-- The forks, in a row of their own. -/
structure FkS (w W : World) (s : Value) (Q z : Nat) (fa : Option Addr) (i fc : Nat) : Prop where
  row : W.ownsRow w.heap.size 3 1 (.slice fa i fc) i (fkC Q z i)
  ne : ∀ b, (Value.slice fa i fc).ownBlock = some b → s.ownBlock ≠ some b
section
variable {F : Nat → Prop} {X : Nat} {w W W' : World} {v0 s s' : Value} {Q z i fc : Nat} {fa : Option Addr}
theorem FkS.step (h : FkS w W s Q z fa i fc) (hX : X < w.heap.size) (k : WrK X W s W' s') : FkS w W' s' Q z fa i fc := by
  refine ⟨ownsRow_heap h.row (fun b hb => ?_), fun b hb e => ?_⟩
  · obtain ⟨h1, h2⟩ := h.row.lt b hb
    exact k.kept.block b h2 (fun e => e.elim (fun e => by omega) (fun e => h.ne b hb e))
  · obtain ⟨h1, h2⟩ := h.row.lt b hb
    rcases k.own b e with h9 | h9
    · exact h.ne b hb h9
    · omega
theorem FkS.drewN (h : FkS w W s Q z fa i fc) (q : Nat) : FkS w (W.drewN q) s Q z fa i fc := ⟨h.row, h.ne⟩
theorem WrS.drewN {va : Option Addr} {c : Nat} {ms : List Ms} (h : WrS F X w v0 W va c ms) (q : Nat) : WrS F X w v0 (W.drewN q) va c ms :=
  ⟨⟨h.a.wr, h.a.row, h.a.ne, h.a.far, fun m hm => MsOk.to (w := W) (W := W.drewN q) (fun _ _ => rfl) (h.a.cls m hm)⟩, ⟨h.k.kept.drewN q, h.k.own⟩⟩
/-- The forks grow, the writer stays. -/
theorem WrS.grownF {va : Option Addr} {c : Nat} {ms : List Ms} {o : Obj} {fo : Option Nat} {W5 : World} (hF : ∀ b, F b → b < w.heap.size) (hX : X < w.heap.size) (h : WrS F X w v0 W va c ms) (hg : (W.alloc o).grownBy W5 fo) (hfo : ∀ b, fo = some b → w.heap.size ≤ b ∧ (sV va ms c).ownBlock ≠ some b) : WrS F X w v0 W5 va c ms := by
  have hs1 : (W.alloc o).heap.size = W.heap.size + 1 := by simp
  have h5 : ∀ q, q < W.heap.size → fo ≠ some q → W5.heap[q]? = W.heap[q]? := fun q hq hn => (hg.block q (by omega) (fun e => hn e.symm)).trans (Below.heap_alloc _ _ _ (by omega))
  have hle := hg.size
  refine ⟨⟨(h5 X h.a.lt (fun e => by have := (hfo X e).1; omega)).trans h.a.wr, ownsRow_heap h.a.row (fun b hb => h5 b (h.a.row.lt b hb).2 (fun e => (hfo b e).2 hb)), h.a.ne, fun b hb => ?_, fun m hm => (h.a.cls m hm).to (fun b hb => h5 b (h.a.far b hb).1 (fun e => by have := (hfo b e).1; have := hF b hb; omega))⟩, ⟨?_, h.k.own⟩⟩
  · obtain ⟨f1, f2, f3⟩ := h.a.far b hb
    exact ⟨by omega, f2, f3⟩
  · exact ((h.k.kept.below ((Below.refl _ _).alloc (Nat.le_refl _) o)).grown hg (fun q hq e => absurd (hfo q e).1 (by omega)))
theorem FkS.push {va : Option Addr} {c : Nat} {ms : List Ms} {o : Obj} {W5 : World} {fa5 : Option Addr} {fc5 : Nat} (_hw : w.heap.size ≤ W.heap.size) (h : FkS w W (sV va ms c) Q z fa i fc) (hs : WrS F X w v0 W va c ms) (hr5 : W5.ownsRow w.heap.size 3 1 (.slice fa5 (i + 1) fc5) (i + 1) (fkC Q z i ++ [.int .i64 ((Q + i * (z + 1) : Nat) : Int)])) (ho : (Value.slice fa5 (i + 1) fc5).ownBlock = (Value.slice fa i fc).ownBlock ∨ (Value.slice fa5 (i + 1) fc5).ownBlock = some (W.alloc o).heap.size) : FkS w W5 (sV va ms c) Q z fa5 (i + 1) fc5 := by
  have hs1 : (W.alloc o).heap.size = W.heap.size + 1 := by simp
  refine ⟨by rw [fkC_succ]; exact hr5, fun b hb e => ?_⟩
  rcases ho with ho | ho
  · exact h.ne b (ho.symm.trans hb) e
  · rw [ho] at hb
    injection hb with hb
    have := (hs.a.row.lt b e).2
    omega
end
theorem loneInt (w : World) (q : Int) {m : Nat} (h : w.heap.size = m) : RowAt (w.alloc (.cells #[.int .i64 q] 3)) (.slice (some ⟨m, 0, none⟩) 1 1) 1 1 [.int .i64 q] := by
  subst h
  exact RowAt.of_block (cs := #[.int .i64 q]) (heap_alloc_new w _) rfl (by decide)
theorem ints_one (q : Int) : ∀ u ∈ [Value.int .i64 q], u.oneCell' = true := fun u hu => by rw [List.mem_singleton.1 hu]; rfl
/-- The ends that are known so far. -/
def tjS (lz : Bool) (Q z E j : Nat) (q : Nat) : Stp := if q < Q + j * (z + 1) then forkS lz (q + 1) E else .fork 0 0
theorem opts_start {f : Nat → List Stp} {z : Nat} (hf : ∀ p, (f p).length = z) (lz : Bool) (Q E d : Nat) : rawS f d Q = optsS f (tjS lz Q z E 0) d Q := by
  unfold rawS
  refine opts_congr hf d Q (fun i hi => ?_)
  unfold tjS
  rw [if_neg (by omega)]
theorem opts_next {f : Nat → List Stp} {z : Nat} (hf : ∀ p, (f p).length = z) (lz : Bool) (Q E d j : Nat) (hj : j < d) : (optsS f (tjS lz Q z E j) d Q).set (j * (z + 1)) (forkS lz (Q + j * (z + 1) + 1) E) = optsS f (tjS lz Q z E (j + 1)) d Q := by
  rw [opts_set hf _ _ _ _ _ hj]
  refine opts_congr hf d Q (fun i hi => ?_)
  unfold tjS
  have hs : (j + 1) * (z + 1) = j * (z + 1) + (z + 1) := Nat.succ_mul _ _
  rcases Nat.lt_trichotomy i j with h | h | h
  · have h1 := Nat.mul_le_mul_right (z + 1) (show i + 1 ≤ j from h)
    rw [Nat.succ_mul] at h1
    rw [if_neg (by omega), if_pos (by omega), if_pos (by omega)]
  · subst h
    rw [if_pos rfl, if_pos (by omega)]
  · have h1 := Nat.mul_le_mul_right (z + 1) (show j + 1 ≤ i from h)
    rw [Nat.succ_mul] at h1
    rw [if_neg (by omega), if_neg (by omega), if_neg (by omega)]
theorem opts_end {f : Nat → List Stp} {z : Nat} (hf : ∀ p, (f p).length = z) (lz : Bool) (Q E d : Nat) : optsS f (tjS lz Q z E d) d Q = optsS f (fun p => forkS lz (p + 1) E) d Q := by
  refine opts_congr hf d Q (fun i hi => ?_)
  unfold tjS
  have h1 := Nat.mul_le_mul_right (z + 1) (show i + 1 ≤ d from hi)
  rw [Nat.succ_mul] at h1
  rw [if_pos (by omega)]
/-- A fork of the list, in its place. -/
theorem fork_at {F : Nat → Prop} {W : World} {f : Nat → List Stp} {z : Nat} (hf : ∀ p, (f p).length = z) {lz : Bool} {Q E d j : Nat} (hj : j < d) {mo : List Ms} (hm : mo.map Ms.st = optsS f (tjS lz Q z E j) d Q) (hok : ∀ m ∈ mo, MsOk W F m) : ∃ l r, mo = l ++ bare (.fork 0 0) :: r ∧ l.length = j * (z + 1) ∧ (l ++ bare (forkS lz (Q + j * (z + 1) + 1) E) :: r).map Ms.st = optsS f (tjS lz Q z E (j + 1)) d Q := by
  have hg := opts_get (t := tjS lz Q z E j) hf d Q j hj
  rw [← hm, List.getElem?_map] at hg
  obtain ⟨m, hmm⟩ : ∃ m, mo[j * (z + 1)]? = some m := by
    cases h : mo[j * (z + 1)]? with
    | none => rw [h] at hg; cases hg
    | some m => exact ⟨m, rfl⟩
  obtain ⟨hlt, hme⟩ := List.getElem?_eq_some_iff.1 hmm
  rw [hmm] at hg
  have hst : m.st = .fork 0 0 := by
    injection hg with hg
    rw [hg]
    unfold tjS
    rw [if_neg (by omega)]
  have hbare : m = bare (.fork 0 0) := by
    have h9 := hok m (by rw [← hme]; exact List.getElem_mem hlt)
    unfold MsOk at h9
    rw [hst] at h9
    obtain ⟨a1, a2, a3⟩ := h9
    cases m
    dsimp only at hst a1 a2 a3
    rw [hst, a1, a2, a3]
    rfl
  have hsp : mo = mo.take (j * (z + 1)) ++ bare (.fork 0 0) :: mo.drop (j * (z + 1) + 1) := by
    rw [← hbare, ← hme, ← List.drop_eq_getElem_cons hlt, List.take_append_drop]
  have hll : (mo.take (j * (z + 1))).length = j * (z + 1) := by rw [List.length_take]; omega
  refine ⟨mo.take (j * (z + 1)), mo.drop (j * (z + 1) + 1), hsp, hll, ?_⟩
  rw [← opts_next hf lz Q E d j hj, ← hm]
  conv => rhs; rw [hsp]
  rw [List.map_append, List.map_append, List.map_cons, List.map_cons, List.set_append_right _ _ (by rw [List.length_map]; omega)]
  congr 1
  rw [List.length_map, hll, Nat.sub_self]
  rfl
theorem FkS.get {w W : World} {s : Value} {Q z i fc k : Nat} {fa : Option Addr} (h : FkS w W s Q z fa i fc) (hk : k < i) : ∃ fb, fa = some ⟨fb, 0, none⟩ ∧ W.cell? ⟨fb, k, none⟩ = some (.int .i64 ((Q + k * (z + 1) : Nat) : Int)) := by
  rcases h.row.2 with ⟨h1, h2⟩ | ⟨g, cap, cur, e1, h2, h3, h4⟩
  · omega
  · injection e1 with e1
    subst e1
    have hc := World.ownsRow.cells h.row (g := g) rfl k _ (fkC_get hk)
    rw [Addr.add_lit, Nat.zero_add] at hc
    exact ⟨g, rfl, hc⟩
end Go.Proofs.YtmbkcmfcdjccoaaDoor
