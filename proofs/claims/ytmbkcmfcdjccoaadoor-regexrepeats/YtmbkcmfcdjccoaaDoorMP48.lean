/- Running a program: over a text, walked. -/
import Derived.Test.YtmbkcmfcdjccoaaDoorMP47
namespace Go.Proofs.YtmbkcmfcdjccoaaDoor
open Go.RowKit Go.Maps

theorem infoInt : (Tryd.prog.info? 3).map (fun i => (i.zero, i.size, i.bytes)) = some (some (.int .i64 0), 1, 8) := by kernel_rfl
theorem make_ints (W : World) (N : Nat) (hN : N ≤ 3000) : (Instr.makeSlice 42 (.int .i64 (N : Int)) (.int .i64 (N : Int))).run Tryd.prog W = .ok (.slice (some ⟨W.heap.size, 0, none⟩) N N) (W.alloc (.cells (meC (List.replicate N 0)).toArray 3)) := by
  obtain ⟨i0, hi0, hz0, hz1, hz2⟩ := info_parts infoInt
  have h9 := run_make (P := Tryd.prog) W 42 3 i0 _ Tryd.underlying42 hi0 hz0 .i64 .i64 (N : Int) (N : Int) (by omega) (Int.le_refl _) (by rw [hz2]; omega) (by omega)
  rw [Int.toNat_natCast, hz1, Nat.mul_one] at h9
  have e : madeCells (Value.int .i64 0).cells N = (meC (List.replicate N 0)).toArray := by
    apply Array.toList_inj.1
    show (madeCells #[Value.int .i64 0] N).toList = _
    rw [toList_madeCells_one]
    simp [meC]
  rw [e] at h9
  exact h9
/-- A runner begins. -/
def begC (n R gm : Nat) (b : Nat) : Nat := if b < n then 0 else if b = gm then 2 else if b = R then 1 else 5
theorem FoB.begin {w : World} {F : Nat → Prop} {ms : List Ms} {sa : Option Addr} {sc E R gm : Nat} {nt : Bool} (hst : RowF w F 72 5 (.slice sa ms.length sc) ms.length (msC ms)) (hcls : ∀ m ∈ ms, MsOk w F m) (hF : ∀ b, F b → b < w.heap.size) (hN : ms.length ≤ 3000) {W1 : World} (hW : Below w.heap.size w W1) (hR : w.heap.size ≤ R) (hg : w.heap.size ≤ gm) (hne : R ≠ gm) (hr : W1.heap[R]? = some (.cells #[.slice sa ms.length sc, .int .i64 E, .bool nt, .slice (some ⟨gm, 0, none⟩) ms.length ms.length, .slice none 0 0, .bool false, .pointer none] 88)) (hm : W1.heap[gm]? = some (.cells (meC (List.replicate ms.length 0)).toArray 3)) :
    FoB (begC w.heap.size R gm) W1 ⟨F, ms, R, gm, sa, sc, ms.length, E, nt⟩ ⟨List.replicate ms.length 0, none, 0, [], none, 0, [], false, none, []⟩ := by
  refine ⟨hr, hst.to (fun _ h => h) (fun q hq => hW.block q (hF q hq)), fun m hm => (hcls m hm).to (fun q hq => hW.block q (hF q hq)), ?_, World.ownsRow_nil _ _ _ _, World.ownsRow_nil _ _ _ _, (fun t ht => by cases ht), (fun t ht => by cases ht), rfl, ?_, ?_, (fun b hb => by cases hb), (fun b hb => by cases hb), fun b hb => ⟨Nat.lt_of_lt_of_le (hF b hb) hW.size, by unfold begC; rw [if_pos (hF b hb)]⟩⟩
  · refine ⟨by simp [meC], Or.inr ⟨gm, ms.length, _, rfl, Nat.zero_le _, hm, Nat.le_refl _, by unfold maxLen; omega, by simp [meC], by simp [meC]⟩⟩
  · show begC w.heap.size R gm R = 1
    unfold begC
    rw [if_neg (by omega), if_neg hne, if_pos rfl]
  · show begC w.heap.size R gm gm = 2
    unfold begC
    rw [if_neg (by omega), if_pos rfl]
/-- What holds of a run at its beginning. -/
def BegS (w : World) (F : Nat → Prop) (ms : List Ms) (sa : Option Addr) (sc E : Nat) (nt : Bool) (R : Nat) (W : World) : Prop := ∃ gm, FoB (begC w.heap.size R gm) W ⟨F, ms, R, gm, sa, sc, ms.length, E, nt⟩ ⟨List.replicate ms.length 0, none, 0, [], none, 0, [], false, none, []⟩ ∧ Below w.heap.size w W
theorem beg_a {w : World} {F : Nat → Prop} {ms : List Ms} {sa : Option Addr} {sc E : Nat} {nt : Bool} (hst : RowF w F 72 5 (.slice sa ms.length sc) ms.length (msC ms)) (hcls : ∀ m ∈ ms, MsOk w F m) (hF : ∀ b, F b → b < w.heap.size) (hN : ms.length ≤ 3000) : BegS w F ms sa sc E nt (w.heap.size + 1) ((w.alloc (.cells (meC (List.replicate ms.length 0)).toArray 3)).alloc (.cells #[.slice sa ms.length sc, .int .i64 E, .bool nt, .slice (some ⟨w.heap.size, 0, none⟩) ms.length ms.length, .slice none 0 0, .bool false, .pointer none] 88)).drew := by
  have hs1 : (w.alloc (.cells (meC (List.replicate ms.length 0)).toArray 3)).heap.size = w.heap.size + 1 := by simp
  generalize hO : Obj.cells #[Value.slice sa ms.length sc, .int .i64 E, .bool nt, .slice (some ⟨w.heap.size, 0, none⟩) ms.length ms.length, .slice none 0 0, .bool false, .pointer none] 88 = O
  have hm : ((w.alloc (.cells (meC (List.replicate ms.length 0)).toArray 3)).alloc O).heap[w.heap.size]? = some (.cells (meC (List.replicate ms.length 0)).toArray 3) := (Below.heap_alloc _ _ _ (by omega)).trans (heap_alloc_new _ _)
  have hr := heap_alloc_new (w.alloc (.cells (meC (List.replicate ms.length 0)).toArray 3)) O
  rw [hs1] at hr
  have hB : Below w.heap.size w ((w.alloc (.cells (meC (List.replicate ms.length 0)).toArray 3)).alloc O) := ((Below.refl _ w).alloc (Nat.le_refl _) _).alloc (by rw [hs1]; omega) _
  have h9 := FoB.begin (R := w.heap.size + 1) (gm := w.heap.size) (E := E) (nt := nt) (sa := sa) (sc := sc) hst hcls hF hN hB (by omega) (Nat.le_refl _) (by omega) (by rw [← hO] at hr ⊢; exact hr) hm
  exact ⟨w.heap.size, h9.drewN 1, hB.drew⟩
theorem beg_b {w : World} {F : Nat → Prop} {ms : List Ms} {sa : Option Addr} {sc E : Nat} {nt : Bool} (hst : RowF w F 72 5 (.slice sa ms.length sc) ms.length (msC ms)) (hcls : ∀ m ∈ ms, MsOk w F m) (hF : ∀ b, F b → b < w.heap.size) (hN : ms.length ≤ 3000) : BegS w F ms sa sc E nt w.heap.size ((w.alloc (.cells #[.slice sa ms.length sc, .int .i64 E, .bool nt, .slice (some ⟨w.heap.size + 1, 0, none⟩) ms.length ms.length, .slice none 0 0, .bool false, .pointer none] 88)).alloc (.cells (meC (List.replicate ms.length 0)).toArray 3)).drew := by
  generalize hO : Obj.cells #[Value.slice sa ms.length sc, .int .i64 E, .bool nt, .slice (some ⟨w.heap.size + 1, 0, none⟩) ms.length ms.length, .slice none 0 0, .bool false, .pointer none] 88 = O
  have hs1 : (w.alloc O).heap.size = w.heap.size + 1 := by simp
  have hr : ((w.alloc O).alloc (.cells (meC (List.replicate ms.length 0)).toArray 3)).heap[w.heap.size]? = some O := (Below.heap_alloc _ _ _ (by omega)).trans (heap_alloc_new _ _)
  have hm := heap_alloc_new (w.alloc O) (.cells (meC (List.replicate ms.length 0)).toArray 3)
  rw [hs1] at hm
  have hB : Below w.heap.size w ((w.alloc O).alloc (.cells (meC (List.replicate ms.length 0)).toArray 3)) := ((Below.refl _ w).alloc (Nat.le_refl _) _).alloc (by rw [hs1]; omega) _
  have h9 := FoB.begin (R := w.heap.size) (gm := w.heap.size + 1) (E := E) (nt := nt) (sa := sa) (sc := sc) hst hcls hF hN hB (Nat.le_refl _) (by omega) (by omega) (by rw [← hO] at hr ⊢; exact hr) hm
  exact ⟨w.heap.size + 1, h9.drewN 1, hB.drew⟩

set_option maxRecDepth 100000 in
set_option maxHeartbeats 6400000 in
theorem run_any (B pg g : Nat) (F : Nat → Prop) (ms : List Ms) (text : ByteArray) (nt : Bool) (w : World) (hP : PgAt w F pg ms g) (hF : ∀ b, F b → b < w.heap.size) (hcl : ClosedS (ms.map Ms.st)) (hN : ms.length ≤ 3000) (hN0 : 0 < ms.length) (hE : Env8 w B) (hB : B ≤ w.heap.size) (ht : text.size ≤ 1000000) :
    Calls Tryd.prog 29 #[.pointer (some ⟨pg, 0, none⟩), .string text, .bool nt] w fun e w' => ∃ p, e = .returned (.tuple #[.pointer p, .bool (runF (ms.map Ms.st) text nt).isSome]) ∧ Below w.heap.size w w' ∧ ∀ l, runF (ms.map Ms.st) text nt = some l → NtAt w' (fun _ => True) l p := by
  obtain ⟨sa, sc, hblk, hst⟩ := hP.blk
  have p0 : w.cell? ⟨pg, 0, none⟩ = some (.slice sa ms.length sc) := by rw [cell_of_heap hblk]; rfl
  have hpl : pg < w.heap.size := hF pg hP.foot
  have hcls := hP.cls
  obtain ⟨N, hN9⟩ : ∃ N, N = ms.length := ⟨_, rfl⟩
  have hmk : ∀ W : World, (Instr.makeSlice 42 (.int .i64 (N : Int)) (.int .i64 (N : Int))).run Tryd.prog W = .ok (.slice (some ⟨W.heap.size, 0, none⟩) N N) (W.alloc (.cells (meC (List.replicate N 0)).toArray 3)) := fun W => make_ints W N (by omega)
  have HA := hide (beg_a (E := text.size) (nt := nt) hst hcls hF hN)
  have HBo := hide (beg_b (E := text.size) (nt := nt) hst hcls hF hN)
  have HE := hide hE
  have HCL := hide hcl
  have HN9 := hide hN9
  rw [← hN9] at p0 hN hN0 HA HBo
  clear hE hcl hst hcls hP hF hN9
  go_enter Tryd.func29, Tryd.ntmps29
  go_wp2_with fail
  go_cut [8] from 16 (fun rv wx => ∃ R, rv = .pointer (some ⟨R, 0, none⟩) ∧ Hid (BegS w F ms sa sc text.size nt R wx))
  case first =>
    clear HE HCL
    go_region
    all_goals
      go_wp2_with fail
      go_meet
      case rel => first | exact ⟨_, rfl, HA.out⟩ | exact ⟨_, rfl, HBo.out⟩
  case rest =>
    obtain ⟨R, rfl, HBS⟩ := hcut
    obtain ⟨gm, hfo, hbel⟩ := HBS.out
    obtain ⟨K, hK⟩ : ∃ K : FoK, K = ⟨F, ms, R, gm, sa, sc, ms.length, text.size, nt⟩ := ⟨_, rfl⟩
    rw [← hK] at hfo
    have hKR : K.R = R := by rw [hK]
    have hpK : prgK K = ms.map Ms.st := by rw [hK]; rfl
    have hKm : K.ms = ms := by rw [hK]
    have hKE : K.E = text.size := by rw [hK]
    have hKn : K.nt = nt := by rw [hK]
    have hKs : K.sa = sa ∧ K.sc = sc := by rw [hK]; exact ⟨rfl, rfl⟩
    obtain ⟨P, hPP⟩ : ∃ P, P = ms.map Ms.st := ⟨_, rfl⟩
    have hPl : P.length = N := by rw [hPP, HN9.out]; simp
    have HFO : Hid (∀ (C : Nat → Nat) (D : FoD) (W : World) (t : Tm) (a : Nat), FoB C W K D → NtAt W (outC C W) t.l t.p → t.st < N → a ≤ text.size → (∀ t ∈ D.wait, t.st < N) → D.wait.length ≤ 5000 → Calls Tryd.prog 39 #[.pointer (some ⟨R, 0, none⟩), .slice D.wa D.wait.length D.wc, .agg #[.int .i64 t.st, .pointer t.p], .int .i64 a] W fun e w' => ∃ C' D', e = .returned (.slice D'.wa D'.wait.length D'.wc) ∧ FoB C' w' K D' ∧ Mv S5 C W C' w' ∧ (∀ t ∈ D'.wait, t.st < N) ∧ D'.fs = folF P text.size a nt (3 * N + 3) none { D.fs with lat := [t.th] }) := fun C D W t a h1 h2 h3 h4 h5 h6 => by
      have h9 := follow_any C K D W t a (3 * N + 3) h1 h2 (by rw [hKm, ← HN9.out]; exact h3) (by rw [hpK]; exact HCL.out) (by rw [hKm, ← HN9.out]; exact hN) (by rw [hKE]; omega) (by rw [hKE]; exact h4) (by rw [hKm, ← HN9.out]; exact h5) h6 (by rw [hKm, ← HN9.out]; exact Nat.le_refl _)
      rw [hKR, hpK, hKE, hKn, ← hPP] at h9
      refine h9.mono ?_
      rintro e w' ⟨C', D', q1, q2, q3, q4, q5⟩
      refine ⟨C', D', q1, q2, q3, ?_, q5⟩
      have q6 := q4.wait
      rw [hKm, ← HN9.out] at q6
      exact q6
    obtain ⟨Rf, hRf⟩ : ∃ Rf : FS, Rf = loopF P text nt (text.size + 1) 0 (folF P text.size 0 nt (3 * P.length + 3) none ⟨List.replicate P.length 0, [(0, [])], [], none⟩).wait (folF P text.size 0 nt (3 * P.length + 3) none ⟨List.replicate P.length 0, [(0, [])], [], none⟩) := ⟨_, rfl⟩
    have hRun : runF (ms.map Ms.st) text nt = Rf.fnd := by rw [hRf, ← hPP]; rfl
    have HRUN := hide hRun
    have HRf := hide hRf
    have HPL := hide hPl
    have HKF := hide (And.intro hKm (And.intro hKs hPP))
    have HKR := hide hKR
    have HF1 := hide (HFO.out _ _ _ ⟨0, none, []⟩ 0 hfo rfl hN0 (Nat.zero_le _) (fun t ht => by cases ht) (Nat.zero_le _))
    have HBEL : Hid (Below w.heap.size w wc ∧ ∀ b, b < w.heap.size → begC w.heap.size R gm b = 0) := ⟨hbel, fun b hb => by unfold begC; rw [if_pos hb]⟩
    have hRl : Hid (FoB (begC w.heap.size R gm) wc K ⟨List.replicate ms.length 0, none, 0, [], none, 0, [], false, none, []⟩) := hfo
    clear hK hKR hpK hKm hKE hKn hKs hRf hRun hPl hPP HBS hfo hbel HA HBo hmk
    go_wp2_with (go_at_call 39; refine HF1.out.mono ?_; clear HF1; rintro e w1 ⟨C1, D1, rfl, h1, h2, h3, h4⟩; have HS1 := hide (And.intro h1 (And.intro h2 (And.intro h3 h4))); clear h1 h2 h3 h4)
    have HRF2 : Hid (loopF P text nt (text.size + 1) 0 (D1.wait.map Tm.th) D1.fs = Rf) := by
      have h9 := HRf.out
      have h8 : D1.fs = folF P text.size 0 nt (3 * P.length + 3) none ⟨List.replicate P.length 0, [(0, [])], [], none⟩ := by
        rw [HS1.out.2.2.2, HPL.out, HN9.out]
        rfl
      rw [← h8] at h9
      exact h9.symm
    have HS2 : Hid (FoB C1 w1 K D1 ∧ NwS C1 w1 none 0 0 [] ∧ Below w.heap.size w w1 ∧ (∀ b, b < w.heap.size → C1 b = 0) ∧ (∀ t ∈ D1.wait, t.st < N)) := by
      obtain ⟨q1, q2, q3, q4⟩ := HS1.out
      have h0 : ∀ b, b < w.heap.size → ¬ S5 (begC w.heap.size R gm b) := fun b hb h => by rw [HBEL.out.2 b hb] at h; have := h.1; omega
      refine ⟨q1, ⟨World.ownsRow_nil _ _ _ _, (fun t ht => by cases ht), (fun b hb => by cases hb)⟩, ?_, fun b hb => ?_, q3⟩
      · exact HBEL.out.1.trans (q2.kept.toBelow HBEL.out.1.size (fun i hi => by
          rcases Nat.lt_or_ge i w.heap.size with h9 | h9
          · exact absurd hi (h0 i h9)
          · exact h9))
      · rw [q2.ext b (Nat.lt_of_lt_of_le hb HBEL.out.1.size)]
        exact HBEL.out.2 b hb
    clear HS1 HBEL hRl HRf
    go_wp2_with fail
    go_loopg [9, 10, 11] (text.size + 1) (fun gh nv xv av wx => ∃ (C : Nat → Nat) (D : FoD) (a : Nat) (xa : Option Addr) (xn xc : Nat) (xl : List Tm), nv = .slice D.wa D.wait.length D.wc ∧ xv = .slice xa xn xc ∧ av = .int .i64 a ∧ a ≤ text.size ∧ text.size - a < gh ∧ Hid (FoB C wx K D ∧ NwS C wx xa xn xc xl ∧ Below w.heap.size w wx ∧ (∀ b, b < w.heap.size → C b = 0) ∧ (∀ t ∈ D.wait, t.st < N)) ∧ Hid (loopF P text nt gh a (D.wait.map Tm.th) D.fs = Rf))
    case atStart => exact ⟨C1, D1, 0, none, 0, 0, [], rfl, rfl, rfl, Nat.zero_le _, by omega, HS2, HRF2⟩
    case round =>
      clear HS2 HRF2
      obtain ⟨C, D, a, xa, xn, xc, xl, rfl, rfl, rfl, hat, hgh, HS, HLF⟩ := hrel
      cases gk with
      | zero => exact absurd hgh (Nat.not_lt_zero _)
      | succ gh =>
        have hlf := HLF.out
        rw [loopF] at hlf
        have hatz : (a : Int) ≤ text.size := by omega
        by_cases hgo : a < text.size ∧ D.wait.map Tm.th ≠ []
        · rw [if_pos hgo] at hlf
          obtain ⟨ha, hne⟩ := hgo
          obtain ⟨k1, k2, k3⟩ := charR_ok ha
          have hnn : 0 < D.wait.length := by
            rcases Nat.eq_zero_or_pos D.wait.length with h9 | h9
            · exact absurd (by rw [List.eq_nil_of_length_eq_zero h9]; rfl) hne
            · exact h9
          have hd := Any.utf8_DecodeRuneInString Tryd.decode (text.extract a text.size) wr (HE.out _ (fun j hj => HS.out.2.2.1.block j (by omega)))
          have hc : (Lib.decodeGo (text.extract a text.size)) = charR text a := rfl
          simp only [hc] at hd
          generalize (charR text a).1 = CH at *
          generalize (charR text a).2 = KW at *
          have HD : Hid (Calls Tryd.prog (Tryd.decode_ren.f 197) #[.string (text.extract a text.size)] wr fun e w' => e = .returned (.tuple #[.int .i32 CH, .int .i64 KW]) ∧ Below wr.heap.size wr w') := hd
          have HLF2 := hide hlf
          have haz : (a : Int) < text.size := by omega
          have hwz : (0 : Int) < D.wait.length := by omega
          clear hd hc hlf HLF hne
          go_upto_region 7 with (go_at_call 40; refine HD.out.mono ?_; clear HD; rintro e w3 ⟨rfl, hb3⟩; have HB3 := hide hb3; clear hb3)
          -- the lists change places
          obtain ⟨W3, hW3⟩ : ∃ W3, W3 = w3 := ⟨_, rfl⟩
          have hsw : FoB (swapC (paintC C wr.heap.size 5)) w3 K { D with wa := xa, wc := xc, wait := [] } ∧ NwS (swapC (paintC C wr.heap.size 5)) w3 D.wa D.wait.length D.wc D.wait ∧ Below w.heap.size w w3 ∧ (∀ b, b < w.heap.size → swapC (paintC C wr.heap.size 5) b = 0) := by
            obtain ⟨q1, q2, q3, q4, q5⟩ := HS.out
            have m : Mv (fun _ => False) C wr (paintC C wr.heap.size 5) w3 := ⟨(Kept.refl _ wr).below HB3.out, fun b hb => by unfold paintC; rw [if_pos hb]⟩
            have x1 := q1.other m (fun _ _ h => h)
            have x2 := q2.mv (m.weak (fun _ h => h.elim))
            obtain ⟨x3, x4⟩ := x1.swap x2
            refine ⟨x3, x4, q3.trans (HB3.out.mono q3.size), fun b hb => ?_⟩
            have h9 := m.ext b (Nat.lt_of_lt_of_le hb q3.size)
            unfold swapC
            rw [h9, q4 b hb]
            rfl
          obtain ⟨C3, hC3⟩ : ∃ C3, C3 = swapC (paintC C wr.heap.size 5) := ⟨_, rfl⟩
          rw [← hC3] at hsw
          have HSW := hide hsw
          have hxa : xa = none ∧ xn = 0 ∧ xc = 0 ∨ ∃ lg, xa = some ⟨lg, 0, none⟩ ∧ xn ≤ xc ∧ xc ≤ maxLen := by
            rcases HS.out.2.1.row.2 with ⟨e1, e2⟩ | ⟨g, cap, cur, e1, _, _, e3, e4, _⟩
            · injection e1 with e1 e2 e3
              exact Or.inl ⟨e1, e2, e3⟩
            · injection e1 with e1 _ e5
              subst e5
              exact Or.inr ⟨g, e1, e3, e4⟩
          have HWT := hide HS.out.2.2.2.2
          clear hsw hC3 hW3 HB3 HS
          go_cut [10] from 32 to 81 (fun xv wx => xv = .slice xa 0 xc ∧ wx = w3)
          case first =>
            clear HSW HLF2 HFO HE
            rcases hxa with ⟨rfl, rfl, rfl⟩ | ⟨lg, rfl, e2, e3⟩
            · go_wp2_with fail
              go_meet
              case rel => exact ⟨rfl, rfl⟩
            · unfold maxLen at e3
              go_wp2_with fail
              go_meet
              case rel => exact ⟨rfl, rfl⟩
          case rest =>
            obtain ⟨rfl, hwc⟩ := hcut
            subst hwc
            obtain ⟨a2, ha2⟩ : ∃ a2, a2 = a + KW := ⟨_, rfl⟩
            have haz2 : ((a : Int) + (KW : Int)) = (a2 : Int) := by omega
            rw [haz2]
            have HLF3 : Hid (loopF P text nt gh a2 (sweepF P text.size a2 nt CH (D.wait.map Tm.th) (FoD.fs { D with wa := xa, wc := xc, wait := [] })).wait (sweepF P text.size a2 nt CH (D.wait.map Tm.th) (FoD.fs { D with wa := xa, wc := xc, wait := [] })) = Rf) := by
              have h9 := HLF2.out
              rw [← ha2] at h9
              exact h9
            obtain ⟨SW, hSWf⟩ : ∃ SW, SW = sweepF P text.size a2 nt CH (D.wait.map Tm.th) (FoD.fs { D with wa := xa, wc := xc, wait := [] }) := ⟨_, rfl⟩
            rw [← hSWf] at HLF3
            have HSF : Hid (sweepF P text.size a2 nt CH ((D.wait.drop 0).map Tm.th) (FoD.fs { D with wa := xa, wc := xc, wait := [] }) = SW) := hSWf.symm
            have ha2s : a2 ≤ text.size := by omega
            obtain ⟨nw, hnw⟩ : ∃ nw, nw = D.wait := ⟨_, rfl⟩
            obtain ⟨nn, hnl⟩ : ∃ nn, nn = D.wait.length := ⟨_, rfl⟩
            have hnl2 : nw.length = nn := by rw [hnw, hnl]
            rw [← hnw] at HSW HSF HWT
            have hs0 : FoB C3 wc K { D with wa := xa, wc := xc, wait := [] } ∧ NwS C3 wc D.wa nn D.wc nw ∧ Below w.heap.size w wc ∧ (∀ b, b < w.heap.size → C3 b = 0) := ⟨HSW.out.1, by rw [hnl, hnw]; have := HSW.out.2.1; rw [hnw] at this; exact this, HSW.out.2.2⟩
            have HS0 := hide hs0
            rw [← hnl] at hnn hwz ⊢
            have HNL := hide hnl2
            have hN9' := HN9.out
            have hfew : Hid ((FoD.fs { D with wa := xa, wc := xc, wait := [] }).wait.length + unmS a2 (FoD.fs { D with wa := xa, wc := xc, wait := [] }).met ≤ N ∧ (FoD.fs { D with wa := xa, wc := xc, wait := [] }).met.length = N) := by
              have h9 := HS0.out.1.mlen
              rw [HKF.out.1, ← HN9.out] at h9
              have h8 := unm_le a2 D.met
              refine ⟨?_, h9⟩
              show 0 + unmS a2 D.met ≤ N
              have h7 : D.met.length = N := h9
              omega
            obtain ⟨na, hna⟩ : ∃ na, na = D.wa := ⟨_, rfl⟩
            obtain ⟨nc, hnc⟩ : ∃ nc, nc = D.wc := ⟨_, rfl⟩
            rw [← hna, ← hnc] at HS0
            rw [← hna, ← hnc]
            have HA2 := hide ha2
            clear hs0 HSW HLF2 hSWf ha2 haz2 hnw hnl hnl2 hxa hna hnc hN9' hwz
            have hnn3 := HS0.out.2.1.max
            unfold maxLen at hnn3
            go_wp2_with fail
            go_loopw [10, 55] (fun xv iv wx => ∃ (i : Nat) (C5 : Nat → Nat) (D5 : FoD), xv = .slice D5.wa D5.wait.length D5.wc ∧ iv = .int .i64 i ∧ i ≤ nn ∧ Hid (FoB C5 wx K D5 ∧ NwS C5 wx na nn nc nw ∧ Below w.heap.size w wx ∧ (∀ b, b < w.heap.size → C5 b = 0)) ∧ Hid (∀ t ∈ D5.wait, t.st < N) ∧ Hid (D5.fs.wait.length + unmS a2 D5.fs.met ≤ N ∧ D5.fs.met.length = N) ∧ Hid (sweepF P text.size a2 nt CH ((nw.drop i).map Tm.th) D5.fs = SW)) (fun _ iv _ => nn - (intOf iv).toNat)
            case atStart => exact ⟨0, C3, { D with wa := xa, wc := xc, wait := [] }, rfl, rfl, Nat.zero_le _, HS0, (fun t ht => by cases ht), hfew, HSF⟩
            case round =>
              clear HS0 hfew HSF
              obtain ⟨i, C5, D5, rfl, rfl, hi, HS, HW5, HFW, HSF⟩ := hrel
              by_cases hlt : i < nn
              · have hil : i < nw.length := by rw [HNL.out]; exact hlt
                have hiz : (i : Int) < nn := by omega
                obtain ⟨lg, rfl, hlg, q1, q2, hnt⟩ := HS.out.2.1.at hlt hil
                have hdr : nw.drop i = nw[i] :: nw.drop (i + 1) := List.drop_eq_getElem_cons hil
                have hts : (nw[i]'hil).st < N := HWT.out _ (List.getElem_mem hil)
                have hsf := HSF.out
                rw [hdr, List.map_cons, sweepF] at hsf
                generalize nw[i]'hil = ti at *
                have htK : ti.st < K.ms.length := by rw [HKF.out.1, ← HN9.out]; exact hts
                obtain ⟨sb, hsa, hsF, hSC⟩ := stp_at HS.out.1.stp htK
                rw [HKF.out.2.1.1] at hsa
                have hok := HS.out.1.cls _ (List.getElem_mem htK)
                have hsbl := (HS.out.1.cF sb hsF).1
                obtain ⟨A, hA1, hA2, hA3, hA4, hA5⟩ := takes_of htK hok CH (by unfold maxR; omega)
                rw [HKF.out.1, ← HKF.out.2.2] at hA4
                have s1 := hSC.s1
                unfold Ms.cv at s1 hA2
                generalize (K.ms[ti.st]'htK).a = ma at *
                generalize (K.ms[ti.st]'htK).n = mn at *
                generalize (K.ms[ti.st]'htK).c = mc at *
                subst hA1
                have HHAS : Hid (∀ W', Below wr.heap.size wr W' → Calls Tryd.prog 41 #[.slice ma A.length mc, .int .i32 (CH : Int)] W' fun e w' => e = .returned (.bool (takesS P ti.st CH)) ∧ Below W'.heap.size W' w') := fun W' hW' => by
                  have h9 := has_any ma A.length mc A CH W' (hA2.below hW') rfl hA3 hA5
                  rw [hA4] at h9
                  exact h9
                have p0' : wr.cell? ⟨pg, 0, none⟩ = some (.slice sa N sc) := (HS.out.2.2.1.cell (p := ⟨pg, 0, none⟩) hpl).trans p0
                have hpl' : pg < wr.heap.size := Nat.lt_of_lt_of_le hpl HS.out.2.2.1.size
                have htz : (ti.st : Int) < N := by omega
                have HSF2 := hide hsf
                have HNT := hide hnt
                clear hsf hdr hSC hok hA2 hA3 hA4 hA5 hsF HSF hnt p0
                subst hsa
                go_upto_region 11 with fail
                obtain ⟨WB, hWB⟩ : ∃ WB, WB = wr.alloc (.cells #[.int .i64 ti.st, .pointer ti.p] 91) := ⟨_, rfl⟩
                obtain ⟨T, hT⟩ : ∃ T, T = wr.heap.size := ⟨_, rfl⟩
                have hB1 : Below wr.heap.size wr WB := by rw [hWB]; exact (Below.refl _ wr).alloc (Nat.le_refl _) _
                have hTB : WB.heap[T]? = some (.cells #[.int .i64 ti.st, .pointer ti.p] 91) := by rw [hWB, hT]; exact heap_alloc_new _ _
                have hTl : T < WB.heap.size := by rw [hWB, hT]; simp
                rw [← hWB, ← hT]
                clear hT
                have b0 : WB.cell? ⟨T, 0, none⟩ = some (.int .i64 ti.st) := by rw [cell_of_heap hTB]; rfl
                have b1 : WB.cell? ⟨pg, 0, none⟩ = some (.slice (some ⟨sb, 0, none⟩) N sc) := (hB1.cell (p := ⟨pg, 0, none⟩) hpl').trans p0'
                have b2 : WB.cell? ⟨sb, ti.st * 5 + 1, none⟩ = some (.slice ma A.length mc) := (hB1.cell (p := ⟨sb, ti.st * 5 + 1, none⟩) hsbl).trans s1
                have hpB : pg < WB.heap.size := Nat.lt_of_lt_of_le hpl' hB1.size
                have hsB : sb < WB.heap.size := Nat.lt_of_lt_of_le hsbl hB1.size
                have HB1 := hide hB1
                have HTB := hide hTB
                clear hWB hB1 hTB p0' s1 q1 q2
                go_cut [55, 69] from 55 to 79 (fun iv bv wx => iv = .int .i64 i ∧ bv = .bool (takesS P ti.st CH) ∧ Hid (Below WB.heap.size WB wx))
                case first =>
                  clear HFO HE HLF3 HS HSF2 HNT HWT HTB
                  have HDR : Hid (Below wr.heap.size wr WB.drew) := HB1.out.drew
                  have HK : Hid (∀ X, Below WB.heap.size WB X → X.cell? ⟨T, 0, none⟩ = some (.int .i64 ti.st) ∧ X.cell? ⟨pg, 0, none⟩ = some (.slice (some ⟨sb, 0, none⟩) N sc) ∧ X.cell? ⟨sb, ti.st * 5 + 1, none⟩ = some (.slice ma A.length mc)) := fun X hX => ⟨(hX.cell (p := ⟨T, 0, none⟩) hTl).trans b0, (hX.cell (p := ⟨pg, 0, none⟩) hpB).trans b1, (hX.cell (p := ⟨sb, ti.st * 5 + 1, none⟩) hsB).trans b2⟩
                  go_region_held3 (fun X => X.cell? ⟨T, 0, none⟩ = some (.int .i64 ti.st) ∧ X.cell? ⟨pg, 0, none⟩ = some (.slice (some ⟨sb, 0, none⟩) N sc) ∧ X.cell? ⟨sb, ti.st * 5 + 1, none⟩ = some (.slice ma A.length mc))
                    (first | exact HK.out _ (Below.refl _ WB).drew | (refine HK.out _ ?_; assumption))
                    (first | (go_at_call 41; refine (HHAS.out _ HDR.out).mono ?_; rintro e w5 ⟨rfl, hb5⟩; have hb5 : Below WB.heap.size WB w5 := (Below.refl WB.heap.size WB).drew.trans hb5))
                  all_goals
                    go_wp2_with fail
                    go_meet
                    case rel => exact ⟨rfl, rfl, hb5⟩
                case rest =>
                  obtain ⟨rfl, rfl, HB5⟩ := hcut
                  have hbw : Below wr.heap.size wr wc := HB1.out.trans (HB5.out.mono HB1.out.size)
                  have m : Mv (fun _ => False) C5 wr (paintC C5 wr.heap.size 5) wc := ⟨(Kept.refl _ wr).below hbw, fun b hb => by unfold paintC; rw [if_pos hb]⟩
                  have hs6 : FoB (paintC C5 wr.heap.size 5) wc K D5 ∧ NwS (paintC C5 wr.heap.size 5) wc (some ⟨lg, 0, none⟩) nn nc nw ∧ Below w.heap.size w wc ∧ (∀ b, b < w.heap.size → paintC C5 wr.heap.size 5 b = 0) ∧ NtAt wc (outC (paintC C5 wr.heap.size 5) wc) ti.l ti.p := ⟨HS.out.1.other m (fun _ _ h => h), HS.out.2.1.mv (m.weak (fun _ h => h.elim)), HS.out.2.2.1.trans (hbw.mono HS.out.2.2.1.size), fun b hb => by have h9 := m.ext b (Nat.lt_of_lt_of_le hb HS.out.2.2.1.size); rw [h9]; exact HS.out.2.2.2 b hb, m.nts (fun h => h) HNT.out⟩
                  have hTc := (HB5.out.block T hTl).trans HTB.out
                  have t0 : wc.cell? ⟨T, 0, none⟩ = some (.int .i64 ti.st) := by rw [cell_of_heap hTc]; rfl
                  have t1 : wc.cell? ⟨T, 1, none⟩ = some (.pointer ti.p) := by rw [cell_of_heap hTc]; rfl
                  obtain ⟨C6, hC6⟩ : ∃ C6, C6 = paintC C5 wr.heap.size 5 := ⟨_, rfl⟩
                  rw [← hC6] at hs6
                  have HS6 := hide hs6
                  clear hs6 hC6 m hbw hTc HS HB5 HB1 HTB HNT HHAS b0 b1 b2
                  cases hTK : takesS P ti.st CH with
                  | false =>
                    have HSF3 : Hid (sweepF P text.size a2 nt CH ((nw.drop (i + 1)).map Tm.th) D5.fs = SW) := by
                      have h9 := HSF2.out
                      rw [if_neg (by show ¬ takesS P ti.st CH = true; rw [hTK]; simp)] at h9
                      exact h9
                    go_wp2_with fail
                    go_roundw
                    case rel => exact ⟨i + 1, C6, D5, rfl, by go_num, by omega, ⟨HS6.out.1, HS6.out.2.1, HS6.out.2.2.1, HS6.out.2.2.2.1⟩, HW5, HFW, HSF3⟩
                    case measure => simp [intOf]; omega
                  | true =>
                    have HSF3 : Hid (sweepF P text.size a2 nt CH ((nw.drop (i + 1)).map Tm.th) (folF P text.size a2 nt (3 * N + 3) none { D5.fs with lat := [(ti.st + 1, ti.l)] }) = SW) := by
                      have h9 := HSF2.out
                      rw [if_pos (by show takesS P ti.st CH = true; exact hTK), HPL.out] at h9
                      exact h9
                    have hst1 : ti.st + 1 < N := by
                      have hcl := HCL.out
                      rw [← HKF.out.2.2] at hcl
                      unfold takesS at hTK
                      cases hp : P[ti.st]? with
                      | none => rw [hp] at hTK; cases hTK
                      | some m =>
                        have h9 := hcl.step hp (by intro e; rw [hp, e] at hTK; cases hTK)
                        rw [HPL.out] at h9
                        exact h9
                    have hwl : D5.wait.length ≤ 5000 := by
                      have h9 := HFW.out.1
                      have h8 : D5.fs.wait.length = D5.wait.length := by unfold FoD.fs; simp
                      omega
                    have HF5 := hide (HFO.out C6 D5 wc ⟨ti.st + 1, ti.p, ti.l⟩ a2 HS6.out.1 HS6.out.2.2.2.2 hst1 ha2s HW5.out hwl)
                    have hcst : (((ti.st + 1 : Nat) : Int)) = (ti.st : Int) + 1 := by omega
                    have HF5 : Hid (Calls Tryd.prog 39 #[.pointer (some ⟨R, 0, none⟩), .slice D5.wa D5.wait.length D5.wc, .agg #[.int .i64 ((ti.st : Int) + 1), .pointer ti.p], .int .i64 a2] wc fun e w' => ∃ C' D', e = .returned (.slice D'.wa D'.wait.length D'.wc) ∧ FoB C' w' K D' ∧ Mv S5 C6 wc C' w' ∧ (∀ t ∈ D'.wait, t.st < N) ∧ D'.fs = folF P text.size a2 nt (3 * N + 3) none { D5.fs with lat := [(ti.st + 1, ti.l)] }) := by
                      have h9 := HF5.out
                      rw [show (⟨ti.st + 1, ti.p, ti.l⟩ : Tm).st = ti.st + 1 from rfl, hcst] at h9
                      exact h9
                    clear HFO hTK HSF2 hcst
                    go_wp2_with (go_at_call 39; refine HF5.out.mono ?_; clear HF5; rintro e w6 ⟨C7, D7, rfl, h1, h2, h3, h4⟩; have HS7 := hide (And.intro h1 (And.intro h2 (And.intro h3 h4))); clear h1 h2 h3 h4)
                    go_roundw
                    case rel =>
                      obtain ⟨g1, g2, g3, g4⟩ := HS7.out
                      obtain ⟨y1, y2, y3, y4, y5⟩ := HS6.out
                      have h0 : ∀ b, b < w.heap.size → ¬ S5 (C6 b) := fun b hb h => by rw [y4 b hb] at h; have := h.1; omega
                      have hff := fol_few P text.size a2 nt (3 * N + 3) none { D5.fs with lat := [(ti.st + 1, ti.l)] } (by rw [HPL.out]; exact HFW.out.2)
                      rw [← g4, HPL.out] at hff
                      refine ⟨i + 1, C7, D7, rfl, by go_num, by omega, ⟨g1, y2.mv g2, ?_, fun b hb => ?_⟩, g3, ⟨Nat.le_trans hff.1 HFW.out.1, hff.2⟩, ?_⟩
                      · exact y3.trans (g2.kept.toBelow y3.size (fun j hj => by
                          rcases Nat.lt_or_ge j w.heap.size with h9 | h9
                          · exact absurd hj (h0 j h9)
                          · exact h9))
                      · rw [g2.ext b (Nat.lt_of_lt_of_le hb y3.size)]
                        exact y4 b hb
                      · have h9 := HSF3.out
                        rw [← g4] at h9
                        exact h9
                    case measure => simp [intOf]; omega
              · obtain rfl : i = nn := by omega
                have hfin : D5.fs = SW := by
                  have h9 := HSF.out
                  rw [List.drop_eq_nil_of_le (by rw [HNL.out]; exact Nat.le_refl _)] at h9
                  exact h9
                have HFIN := hide hfin
                clear hfin HSF
                go_wp2_with fail
                go_roundg gh
                case measure => have := HA2.out; omega
                case rel =>
                  have ha2 := HA2.out
                  refine ⟨C5, D5, a2, na, i, nc, nw, rfl, rfl, rfl, ha2s, by omega, ⟨HS.out.1, HS.out.2.1, HS.out.2.2.1, HS.out.2.2.2, HW5.out⟩, ?_⟩
                  have h9 := HLF3.out
                  rw [← HFIN.out] at h9
                  exact h9
        · rw [if_neg hgo] at hlf
          have z5 := HS.out.1.cells.r5
          have z6 := HS.out.1.cells.r6
          rw [HKR.out] at z5 z6
          have hfin : D.fs = Rf := hlf
          have HFIN := hide hfin
          clear hlf hfin HLF
          by_cases ha : a < text.size
          · have hw0 : D.wait.length = 0 := by
              have h9 : D.wait.map Tm.th = [] := by
                cases h8 : D.wait.map Tm.th with
                | nil => rfl
                | cons x l => exact absurd ⟨ha, by rw [h8]; simp⟩ hgo
              have h7 := congrArg List.length h9
              simpa using h7
            have haz : (a : Int) < text.size := by omega
            rw [hw0]
            go_wp2_with fail
            go_quiet (fail)
            go_wp2_with fail
            go_ret2
            refine ⟨D.fp, ?_, below_drewN HS.out.2.2.1 _, fun l hl => ?_⟩
            · rw [HRUN.out, ← HFIN.out]
              unfold FoD.fs
              cases D.fnd <;> rfl
            · rw [HRUN.out, ← HFIN.out] at hl
              unfold FoD.fs at hl
              have h9 := HS.out.1.fdn
              cases hfd : D.fnd with
              | false => rw [hfd] at hl; cases hl
              | true =>
                rw [hfd] at hl
                injection hl with hl
                subst hl
                exact NtAt.to (W := wr) (W' := wr.drewN nq) (fun _ _ => trivial) (fun _ _ => rfl) h9
          · have haz : ¬ (a : Int) < text.size := by omega
            go_wp2_with fail
            go_quiet (fail)
            go_wp2_with fail
            go_ret2
            refine ⟨D.fp, ?_, below_drewN HS.out.2.2.1 _, fun l hl => ?_⟩
            · rw [HRUN.out, ← HFIN.out]
              unfold FoD.fs
              cases D.fnd <;> rfl
            · rw [HRUN.out, ← HFIN.out] at hl
              unfold FoD.fs at hl
              have h9 := HS.out.1.fdn
              cases hfd : D.fnd with
              | false => rw [hfd] at hl; cases hl
              | true =>
                rw [hfd] at hl
                injection hl with hl
                subst hl
                exact NtAt.to (W := wr) (W' := wr.drewN nq) (fun _ _ => trivial) (fun _ _ => rfl) h9
end Go.Proofs.YtmbkcmfcdjccoaaDoor
