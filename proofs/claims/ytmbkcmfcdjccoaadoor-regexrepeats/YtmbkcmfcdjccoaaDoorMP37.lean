/- The steps of an expression: repeats with an end, walked. -/
import Derived.Test.YtmbkcmfcdjccoaaDoorMP35
namespace Go.Proofs.YtmbkcmfcdjccoaaDoor
open Go.RowKit Go.Maps

set_option maxRecDepth 100000 in
set_option maxHeartbeats 1600000 in
theorem writeTimes_closed (y : Nd) (lo : Nat) (hi : Int) (lz : Bool) (hne : hi ≠ -1) (ih : WrC y) (hw : WfN (.times y lo hi lz)) (hgr : GrN 10000 (.times y lo hi lz)) (h0 : sizeN (.times y lo hi lz) ≠ 0) (F : Nat → Prop) (X p : Nat) (w : World) (va : Option Addr) (c : Nat) (ms : List Ms) (h : WrA F X w va c ms) (hx : NdAt w F (.times y lo hi lz) p) (hl : (ms.length : Int) + sizeN (.times y lo hi lz) ≤ 2000) :
    Calls Tryd.prog 38 #[.pointer (some ⟨X, 0, none⟩), .pointer (some ⟨p, 0, none⟩)] w fun e w' => e = .returned (.tuple #[]) ∧ WrD F X w (sV va ms c) ms (emitN (.times y lo hi lz) ms.length) w' := by
  obtain ⟨z, d, hzz, hz, hlen, hall⟩ := times_room hw h0 (by omega)
  obtain ⟨hhi, hS⟩ : hi = lo + d ∧ sizeN (.times y lo hi lz) = ((lo * z + d * (z + 1) : Nat) : Int) := by
    rcases hall with h9 | h9
    · exact absurd h9.1 hne
    · exact h9.2
  rw [hS] at hl
  have hw0 := hw
  unfold WfN at hw
  unfold GrN at hgr
  obtain ⟨hwy, k1, -⟩ := hw
  unfold NdAt at hx
  obtain ⟨hp, v, x, hn, hps, hx⟩ := hx
  obtain ⟨gb, gc, rfl, hgF, hcell⟩ := hps.get (i := 0) (by simp)
  have hdt : (hi - lo).toNat = d := by omega
  have hem : emitN (.times y lo hi lz) ms.length = copiesS (emitN y) lo ms.length ++ optsS (emitN y) (fun p => forkS lz (p + 1) (ms.length + lo * z + d * (z + 1))) d (ms.length + lo * z) := by
    rw [emitN, copiesS_len hlen]
    unfold tailS rawS
    rw [if_neg hne, hdt, optsS_len hlen]
  rw [hem]
  clear hem
  have HF : Hid (∀ W : World, (∀ j, F j → W.heap[j]? = w.heap[j]?) → W.cell? ⟨p, 6, none⟩ = some (.bool lz) ∧ W.cell? ⟨p, 5, none⟩ = some (.int .i64 hi) ∧ W.cell? ⟨p, 4, none⟩ = some (.int .i64 lo) ∧ NdAt W F y x) := fun W hW => by
    have hnW := (hW p hp).trans hn
    exact ⟨by rw [cell_of_heap hnW]; rfl, by rw [cell_of_heap hnW]; rfl, by rw [cell_of_heap hnW]; rfl, hx.again hW⟩
  have k2 : w.cell? ⟨p, 2, none⟩ = some (.slice (some ⟨gb, 0, none⟩) 1 gc) := by rw [cell_of_heap hn]; rfl
  have k4 : w.cell? ⟨p, 4, none⟩ = some (.int .i64 lo) := by rw [cell_of_heap hn]; rfl
  have k9 : w.cell? ⟨gb, 0, none⟩ = some (.pointer (some ⟨x, 0, none⟩)) := hcell w (fun _ _ => rfl)
  have HA0 : Hid (WrA F X w va c ms) := h
  have HFX : Hid ((∀ b, F b → b < w.heap.size) ∧ X < w.heap.size) := ⟨fun b hb => (h.far b hb).1, h.lt⟩
  have HS : Hid (WrS F X w (sV va ms c) w va c ms) := WrS.start h
  -- a thing is written: the writer, and what it leaves alone
  have HW : Hid (∀ W va1 c1 M1, WrS F X w (sV va ms c) W va1 c1 M1 → M1.length + z ≤ 2000 → Calls Tryd.prog 26 #[.pointer (some ⟨X, 0, none⟩), .pointer (some ⟨x, 0, none⟩)] W fun e w' => e = .returned (.tuple #[]) ∧ ∃ va2 c2 m2, WrS F X w (sV va ms c) w' va2 c2 (M1 ++ m2) ∧ m2.map Ms.st = emitN y M1.length ∧ WrK X W (sV va1 M1 c1) w' (sV va2 (M1 ++ m2) c2)) := fun W va1 c1 M1 H hb =>
    (ih hwy hgr F X x W va1 c1 M1 H.a (HF.out W (H.read h)).2.2.2 (by rw [hzz]; omega)).mono (fun e w' h9 => by
      obtain ⟨he, va2, c2, m2, h1, h2⟩ := h9
      exact ⟨he, va2, c2, m2, ⟨h1.a, H.k.trans h1.k⟩, h2, h1.k⟩)
  have hlo : ∀ i, i < lo → i * z + z ≤ lo * z := fun i hi => by
    have := Nat.mul_le_mul_right z (show i + 1 ≤ lo from hi)
    rw [Nat.succ_mul] at this
    exact this
  have hdo : ∀ i, i < d → i * (z + 1) + (z + 1) ≤ d * (z + 1) := fun i hi => by
    have := Nat.mul_le_mul_right (z + 1) (show i + 1 ≤ d from hi)
    rw [Nat.succ_mul] at this
    exact this
  have HLO : Hid (∀ i, i < lo → i * z + z ≤ lo * z) := hlo
  have HDO : Hid (∀ i, i < d → i * (z + 1) + (z + 1) ≤ d * (z + 1)) := hdo
  have HCO : Hid (∀ (i : Nat) (m2 : List Ms), m2.map Ms.st = copiesS (emitN y) i ms.length → (ms ++ m2).length = ms.length + i * z ∧ copiesS (emitN y) (i + 1) ms.length = copiesS (emitN y) i ms.length ++ emitN y (ms ++ m2).length) := fun i m2 hm => copy_one (_lo := lo) hlen hm
  have HLN : Hid (∀ p, (emitN y p).length = z) := hlen
  have hsum : ms.length + lo * z + d * (z + 1) ≤ 2000 := by omega
  have hdl : hi - (lo : Int) = (d : Int) := by omega
  have hnb : (hi == -1) = false := by simpa using hne
  have hhz : hi ≤ 4000 := by
    have : d ≤ d * (z + 1) := Nat.le_mul_of_pos_right d (by omega)
    omega
  have hdz : d ≤ 2000 := by
    have : d ≤ d * (z + 1) := Nat.le_mul_of_pos_right d (by omega)
    omega
  clear h hn hps hx hcell hgr hwy ih hlen hlo hdo hall hS h0 hl hzz hne hhi hdt hw0
  go_enter Tryd.func38, Tryd.ntmps38
  go_wp2
  go_loopw [20] (fun iv wr => ∃ (i : Nat) (va1 : Option Addr) (c1 : Nat) (M1 : List Ms), iv = .int .i64 i ∧ i ≤ lo ∧ Hid (WrS F X w (sV va ms c) wr va1 c1 M1) ∧ Hid (∃ m2, M1 = ms ++ m2 ∧ m2.map Ms.st = copiesS (emitN y) i ms.length)) (fun iv _ => lo - (intOf iv).toNat)
  case atStart => exact ⟨0, va, c, ms, rfl, Nat.zero_le _, HS, [], by simp, by simp [copiesS]⟩
  case round =>
    clear HS k2 k4 k9
    obtain ⟨i, va1, c1, M1, rfl, hi1, HS, HM⟩ := hrel
    by_cases hlt : i < lo
    · have hltz : (i : Int) < lo := by omega
      have hroom := HLO.out i hlt
      have HC : Hid (Calls Tryd.prog 26 #[.pointer (some ⟨X, 0, none⟩), .pointer (some ⟨x, 0, none⟩)] wr fun e w' => e = .returned (.tuple #[]) ∧ ∃ va2 c2 M2, WrS F X w (sV va ms c) w' va2 c2 M2 ∧ ∃ m2, M2 = ms ++ m2 ∧ m2.map Ms.st = copiesS (emitN y) (i + 1) ms.length) := by
        obtain ⟨m2, hM1, hm2⟩ := HM.out
        subst hM1
        obtain ⟨e1, e2⟩ := HCO.out i m2 hm2
        refine (HW.out wr va1 c1 (ms ++ m2) HS.out (by omega)).mono ?_
        rintro e w' ⟨he, va2, c2, m3, h1, h2, -⟩
        exact ⟨he, va2, c2, _, h1, m2 ++ m3, by simp, by rw [List.map_append, hm2, h2, e2]⟩
      clear HW HS HM HF HCO
      go_wp2_with (go_at_call 26; refine HC.out.mono ?_; clear HC; rintro e w2 ⟨rfl, va2, c2, M2, h1, h2⟩; have HS : Hid (WrS F X w (sV va ms c) w2 va2 c2 M2 ∧ ∃ m2, M2 = ms ++ m2 ∧ m2.map Ms.st = copiesS (emitN y) (i + 1) ms.length) := ⟨h1, h2⟩; clear h1 h2)
      go_roundw
      case rel => exact ⟨i + 1, va2, c2, M2, by go_num, by omega, HS.out.1, HS.out.2⟩
      case measure => simp [intOf]; omega
    · obtain rfl : i = lo := by omega
      obtain ⟨q6, q5, q4, -⟩ := HF.out wr (HS.out.read HA0.out)
      obtain ⟨A, hA⟩ : ∃ A, A = M1 := ⟨_, rfl⟩
      obtain ⟨Q, hQ⟩ : ∃ Q, Q = A.length := ⟨_, rfl⟩
      have HAQ : Hid ((∃ m2, A = ms ++ m2 ∧ m2.map Ms.st = copiesS (emitN y) i ms.length) ∧ Q = A.length ∧ Q = ms.length + i * z) := by
        obtain ⟨m2, hM1, hm2⟩ := HM.out
        refine ⟨⟨m2, hA.trans hM1, hm2⟩, hQ, ?_⟩
        rw [hQ, hA, hM1]
        exact (HCO.out i m2 hm2).1
      have hQz : Q + d * (z + 1) ≤ 2000 := by rw [HAQ.out.2.2]; omega
      rw [← hA] at HS
      clear hA hQ HM HCO HLO hlt hi1
      have HS2 : Hid (∀ q, WrS F X w (sV va ms c) (wr.drewN q) va1 c1 A) := fun q => HS.out.drewN q
      clear HS
      go_wp2_with fail
      go_quiet (fail)
      clear q4 q5 q6
      go_wp2_with fail
      go_loopw [7, 60] (fun fv iv wr => ∃ (j : Nat) (va2 : Option Addr) (c2 : Nat) (M : List Ms) (fa : Option Addr) (fc : Nat), fv = .slice fa j fc ∧ iv = .int .i64 j ∧ j ≤ d ∧ Hid (WrS F X w (sV va ms c) wr va2 c2 M) ∧ Hid (FkS w wr (sV va2 M c2) Q z fa j fc) ∧ Hid (∃ mo, M = A ++ mo ∧ mo.map Ms.st = rawS (emitN y) j Q)) (fun _ iv _ => d - (intOf iv).toNat)
      case atStart => exact ⟨0, va1, c1, A, none, 0, rfl, rfl, Nat.zero_le _, HS2.out _, ⟨World.ownsRow_nil _ _ _ _, fun b hb => by cases hb⟩, [], by simp, by simp [rawS, optsS]⟩
      case round =>
        clear HS2
        obtain ⟨j, va2, c2, M, fa, fc, rfl, rfl, hj, HS, HK, HM⟩ := hrel
        have HML : Hid (M.length = Q + j * (z + 1)) := by
          obtain ⟨mo, hM1, hmo⟩ := HM.out
          have h9 := len_app (ms := A) hmo
          unfold rawS at h9
          rw [optsS_len HLN.out, ← hM1, ← HAQ.out.2.1] at h9
          exact h9
        have hMz : M.length ≤ 2000 := by
          have h9 := Nat.mul_le_mul_right (z + 1) hj
          rw [HML.out]; omega
        by_cases hltj : j < d
        · have hltz : (j : Int) < d := by omega
          have hroom := HDO.out j hltj
          have hMq : M.length + 1 + z ≤ 2000 := by rw [HML.out]; omega
          have HFK : Hid (Calls Tryd.prog 36 #[.pointer (some ⟨X, 0, none⟩)] wr fun e w' => e = .returned (.int .i64 M.length) ∧ ∃ va3 c3 M3, WrS F X w (sV va ms c) w' va3 c3 M3 ∧ M3 = M ++ [bare (.fork 0 0)] ∧ M3.length = M.length + 1 ∧ FkS w w' (sV va3 M3 c3) Q z fa j fc) := (fork_any F X wr va2 c2 M HS.out.a (by omega)).mono (fun e w' h9 => by
            obtain ⟨he, va3, c3, h1, h2⟩ := h9
            exact ⟨he, va3, c3, _, ⟨h1, HS.out.k.trans h2⟩, rfl, by simp, HK.out.step HFX.out.2 h2⟩)
          have HWT : Hid (∀ W va3 c3 M3 a5 c5, WrS F X w (sV va ms c) W va3 c3 M3 → M3.length = M.length + 1 → FkS w W (sV va3 M3 c3) Q z a5 (j + 1) c5 → Calls Tryd.prog 26 #[.pointer (some ⟨X, 0, none⟩), .pointer (some ⟨x, 0, none⟩)] W fun e w' => e = .returned (.tuple #[]) ∧ ∃ va4 c4 m2, WrS F X w (sV va ms c) w' va4 c4 (M3 ++ m2) ∧ m2.map Ms.st = emitN y (M.length + 1) ∧ FkS w w' (sV va4 (M3 ++ m2) c4) Q z a5 (j + 1) c5) := fun W va3 c3 M3 a5 c5 H hM3 hk => (HW.out W va3 c3 M3 H (by omega)).mono (fun e w' h9 => by
            obtain ⟨he, va4, c4, m2, h1, h2, h3⟩ := h9
            rw [hM3] at h2
            exact ⟨he, va4, c4, m2, h1, h2, hk.step HFX.out.2 h3⟩)
          have HPU : Hid (∀ (W W5 : World) (va3 : Option Addr) (c3 : Nat) (M3 : List Ms) (o : Obj) (a5 : Option Addr) (c5 : Nat), WrS F X w (sV va ms c) W va3 c3 M3 → FkS w W (sV va3 M3 c3) Q z fa j fc → W5.ownsRow w.heap.size 3 1 (.slice a5 (j + 1) c5) (j + 1) (fkC Q z j ++ [.int .i64 (M.length : Int)]) → (W.alloc o).grownBy W5 (Value.slice fa j fc).ownBlock → ((Value.slice a5 (j + 1) c5).ownBlock = (Value.slice fa j fc).ownBlock ∨ (Value.slice a5 (j + 1) c5).ownBlock = some (W.alloc o).heap.size) → WrS F X w (sV va ms c) W5 va3 c3 M3 ∧ FkS w W5 (sV va3 M3 c3) Q z a5 (j + 1) c5) := fun W W5 va3 c3 M3 o a5 c5 H hk hr hg ho => by
            rw [HML.out] at hr
            exact ⟨H.grownF HFX.out.1 HFX.out.2 hg (fun b hb => ⟨(hk.row.lt b hb).1, hk.ne b hb⟩), hk.push H.k.kept.size H hr ho⟩
          clear HW HS HML HK
          go_wp2_with (first
            | (go_at_call 36; refine HFK.out.mono ?_; clear HFK; rintro e w3 ⟨rfl, va3, c3, M3, h1, h2, h3, h4⟩; have HS : Hid (WrS F X w (sV va ms c) w3 va3 c3 M3 ∧ M3 = M ++ [bare (.fork 0 0)] ∧ M3.length = M.length + 1 ∧ FkS w w3 (sV va3 M3 c3) Q z fa j fc) := ⟨h1, h2, h3, h4⟩; clear h1 h2 h3 h4)
            | (at_builtin; refine wpList_append_row appInt _ rfl _ _ rfl w.heap.size (.slice fa j fc) j (fkC Q z j) rfl (row_below HS.out.2.2.2.row ((Below.refl _ _).alloc (Nat.le_refl _) _)) _ 1 [.int .i64 (M.length : Int)] rfl (loneInt _ _ rfl) (ints_one _) (by omega) (Nat.le_trans HS.out.1.k.kept.size (by simp)) ?_; intro a5 c5 w5 hr5 hg5 ho5; have HS5 : Hid (WrS F X w (sV va ms c) w5 va3 c3 M3 ∧ FkS w w5 (sV va3 M3 c3) Q z a5 (j + 1) c5 ∧ M3 = M ++ [bare (.fork 0 0)] ∧ M3.length = M.length + 1) := (by obtain ⟨t1, t2⟩ := HPU.out _ _ _ _ _ _ _ _ HS.out.1 HS.out.2.2.2 hr5 hg5 ho5; exact ⟨t1, t2, HS.out.2.1, HS.out.2.2.1⟩); clear hr5 hg5 ho5 HS HPU)
            | (go_at_call 26; refine (HWT.out _ _ _ _ _ _ HS5.out.1 HS5.out.2.2.2 HS5.out.2.1).mono ?_; clear HWT; rintro e w6 ⟨rfl, va4, c4, m2, h1, h2, h3⟩; have HS6 : Hid (WrS F X w (sV va ms c) w6 va4 c4 (M3 ++ m2) ∧ m2.map Ms.st = emitN y (M.length + 1) ∧ FkS w w6 (sV va4 (M3 ++ m2) c4) Q z a5 (j + 1) c5 ∧ M3 = M ++ [bare (.fork 0 0)]) := ⟨h1, h2, h3, HS5.out.2.2.1⟩; clear h1 h2 h3 HS5))
          go_roundw
          case rel =>
            refine ⟨j + 1, va4, c4, M3 ++ m2, a5, c5, rfl, by go_num, by omega, HS6.out.1, HS6.out.2.2.1, ?_⟩
            obtain ⟨mo, hM1, hmo⟩ := HM.out
            refine ⟨mo ++ bare (.fork 0 0) :: m2, by rw [HS6.out.2.2.2, hM1]; simp, ?_⟩
            have hlo2 : (rawS (emitN y) j Q).length + Q = M.length := by
              rw [hM1, len_app hmo, ← HAQ.out.2.1]
              omega
            unfold rawS at hmo hlo2 ⊢
            rw [opts_snoc, List.map_append, hmo, List.map_cons, HS6.out.2.1]
            rw [show Q + (optsS (emitN y) (fun _ => Stp.fork 0 0) j Q).length = M.length by omega]
            rfl
          case measure => simp [intOf]; omega
        · obtain rfl : j = d := by omega
          have HM0 : Hid (∃ mo, M = A ++ mo ∧ mo.map Ms.st = optsS (emitN y) (tjS lz Q z (Q + j * (z + 1)) 0) j Q) := by
            obtain ⟨mo, hM1, hmo⟩ := HM.out
            exact ⟨mo, hM1, hmo.trans (opts_start HLN.out lz Q (Q + j * (z + 1)) j)⟩
          clear HM HW HDO hltj
          go_wp2_with fail
          go_loopw [73] (fun iv wr => ∃ (k c3 : Nat) (M3 : List Ms), iv = .int .i64 k ∧ k ≤ j ∧ Hid (WrS F X w (sV va ms c) wr va2 c3 M3) ∧ Hid (FkS w wr (sV va2 M3 c3) Q z fa j fc) ∧ Hid (M3.length = Q + j * (z + 1)) ∧ Hid (∃ mo, M3 = A ++ mo ∧ mo.map Ms.st = optsS (emitN y) (tjS lz Q z (Q + j * (z + 1)) k) j Q)) (fun iv _ => j - (intOf iv).toNat)
          case atStart => exact ⟨0, c2, M, rfl, Nat.zero_le _, HS, HK, HML, HM0⟩
          case round =>
            clear HS HK HML HM0 hMz
            obtain ⟨k, c3, M3, rfl, hk, HS, HK, HML, HM⟩ := hrel
            by_cases hltk : k < j
            · have hltz : (k : Int) < j := by omega
              obtain ⟨fb, rfl, hfb⟩ := HK.out.get hltk
              obtain ⟨q, hq⟩ : ∃ q, q = Q + k * (z + 1) := ⟨_, rfl⟩
              rw [← hq] at hfb
              have hqz : q ≤ 2000 := by
                have h9 := Nat.mul_le_mul_right (z + 1) hk
                omega
              have hMz : M3.length ≤ 2000 := by rw [HML.out]; exact hQz
              have x0 := HS.out.a.c0
              obtain ⟨q6, -, -, -⟩ := HF.out wr (HS.out.read HA0.out)
              have HLD : Hid (∀ (n : Nat) (v : Int), v = (q : Int) + 1 → Calls Tryd.prog 37 #[.pointer (some ⟨X, 0, none⟩), .int .i64 q, .int .i64 v, .int .i64 M3.length, .bool lz] (wr.drewN n) fun e w' => e = .returned (.tuple #[]) ∧ ∃ c4 M4, WrS F X w (sV va ms c) w' va2 c4 M4 ∧ FkS w w' (sV va2 M4 c4) Q z (some ⟨fb, 0, none⟩) j fc ∧ M4.length = Q + j * (z + 1) ∧ ∃ mo, M4 = A ++ mo ∧ mo.map Ms.st = optsS (emitN y) (tjS lz Q z (Q + j * (z + 1)) (k + 1)) j Q) := fun n v hv => by
                subst hv
                obtain ⟨mo, hM1, hmo⟩ := HM.out
                obtain ⟨l, r, e1, e2, e3⟩ := fork_at (W := wr) (F := F) HLN.out hltk hmo (fun m hm => HS.out.a.cls m (by rw [hM1]; exact List.mem_append.2 (Or.inr hm)))
                have hM2 : M3 = (A ++ l) ++ bare (.fork 0 0) :: r := by rw [hM1, e1, List.append_assoc]
                have hAl : (A ++ l).length = q := by rw [List.length_append, e2, ← HAQ.out.2.1, hq]
                have H9 := HS.out.drewN n
                have hk9 := HK.out.drewN n
                rw [hM2] at H9 hk9
                have h8 := lead_any F X (wr.drewN n) va2 c3 (A ++ l) r 0 0 (q + 1) M3.length lz H9.a (by rw [← hM2]; omega) (by omega) (by omega)
                rw [hAl] at h8
                refine h8.mono ?_
                rintro e w' ⟨he, c4, h1, h2⟩
                refine ⟨he, c4, _, ⟨h1, H9.k.trans h2⟩, hk9.step HFX.out.2 h2, ?_, l ++ bare (forkS lz (q + 1) M3.length) :: r, by rw [List.append_assoc], ?_⟩
                · have h7 := HML.out
                  rw [hM2] at h7
                  simpa using h7
                · rw [HML.out, hq]
                  exact e3
              clear HS HK HM HML hq
              go_wp2_with fail
              go_region_with (go_at_call 37; refine (HLD.out 1 _ (by simp only [IntKind.wrap_i64]; omega)).mono ?_; rintro e w4 ⟨rfl, c4, M4, h1, h2, h3, h4⟩; have HS4 : Hid (WrS F X w (sV va ms c) w4 va2 c4 M4 ∧ FkS w w4 (sV va2 M4 c4) Q z (some ⟨fb, 0, none⟩) j fc ∧ M4.length = Q + j * (z + 1) ∧ ∃ mo, M4 = A ++ mo ∧ mo.map Ms.st = optsS (emitN y) (tjS lz Q z (Q + j * (z + 1)) (k + 1)) j Q) := ⟨h1, h2, h3, h4⟩; clear h1 h2 h3 h4)
              all_goals
                go_wp2_with fail
                go_roundw
                case rel => exact ⟨k + 1, c4, M4, by go_num, by omega, HS4.out.1, HS4.out.2.1, HS4.out.2.2.1, HS4.out.2.2.2⟩
                case measure => simp [intOf]; omega
            · obtain rfl : k = j := by omega
              go_wp2_with fail
              go_end0
              obtain ⟨mo, hM1, hmo⟩ := HM.out
              obtain ⟨⟨m2, hA, hm2⟩, hQ1, hQ2⟩ := HAQ.out
              refine ⟨rfl, va2, c3, m2 ++ mo, ?_, ?_⟩
              · rw [← List.append_assoc, ← hA, ← hM1]
                exact HS.out
              · rw [List.map_append, hm2, hmo, opts_end HLN.out, hQ2]
end Go.Proofs.YtmbkcmfcdjccoaaDoor
