/- CompactPlan: what its walk asks. -/
import Derived.Test.YtfkahbgphoonaaaTd
import Derived.Test.YtfkahbgphoonaaaTf
import Derived.Test.YtfkahbgphoonaaaTb
import Derived.Test.YtfkahbgphoonaaaYu
import Derived.Laws.StructEq
namespace Go.Proofs.Ytfkahbgphoonaaa
open Go.RowKit Go.Shelf Go.Maps Go.Sort

set_option maxRecDepth 100000 in
set_option maxHeartbeats 1000000 in
theorem few_val (a : Option Addr) (n c : Nat) (w : World) (hc : n ≤ c) (hm : c ≤ maxLen) :
    Calls Try.prog 5 #[.slice a n c] w fun e w' => e = .returned (.slice a (min n 30) c) ∧ w' = w := by
  have hmx : (c : Int) ≤ 9223372036854775807 := by unfold maxLen at hm; omega
  by_cases hgt : 30 < n
  · have hi : (30 : Int) < (n : Int) := by omega
    have hi2 : (30 : Int) ≤ (c : Int) := by omega
    rw [show min n 30 = 30 by omega]
    go_enter Try.func5, Try.ntmps5
    go_wp2
    go_ret
    exact ⟨rfl, rfl⟩
  · have hi : ¬ (30 : Int) < (n : Int) := by omega
    rw [show min n 30 = n by omega]
    go_enter Try.func5, Try.ntmps5
    go_wp2
    go_ret
    exact ⟨rfl, rfl⟩
theorem planOf_len {L : List Mt} {nw wd : Int} {ns : List ByteArray} (h : PlanOf L nw wd ns) (hw : 1 ≤ wd) : (ns = [] ∧ L.countP (inF ns) = 0) ∨ (2 ≤ ns.length ∧ 2 ≤ L.countP (inF ns)) := by
  rcases planOf_count h hw with e | h1
  · left
    refine ⟨e, ?_⟩
    rw [e, List.countP_eq_zero]
    intro m _
    simp [inF]
  · right
    refine ⟨?_, h1⟩
    rcases h with ⟨ls, hp, -, -, rfl⟩ | ⟨-, ls, -, hp, -, rfl⟩
    · rcases lotF_two ls with h | h
      · rw [h] at h1
        exfalso
        have : L.countP (inF (([] : List Mb).map (·.2.nm))) = 0 := by rw [List.countP_eq_zero]; intro m _; simp [inF]
        omega
      · simpa using h
    · rcases lotF_two ls with h | h
      · rw [h] at h1
        exfalso
        have : L.countP (inF (([] : List Mb).map (·.2.nm))) = 0 := by rw [List.countP_eq_zero]; intro m _; simp [inF]
        omega
      · simpa using h
theorem joinV_form (s : Nat × Mt) : ∃ jl jh jv, joinV s = .tuple #[.agg #[.string ByteArray.empty, .int .i64 jl, .int .i64 jh, .int .i64 jv], .bool (decide (2 ≤ s.1))] := by
  unfold joinV
  by_cases h : s.1 < 2
  · exact ⟨0, 0, 0, by rw [if_pos h]⟩
  · exact ⟨s.2.lo, s.2.hi, wrap64 (s.2.lv + 1), by rw [if_neg h]⟩
theorem mtFields : Try.prog.underlying 31 = some (.struct (Try.prog.fieldsOf 31)) := by kernel_rfl
theorem mtHeld : Try.prog.stoodInHeld 31 = false := by kernel_rfl
theorem mtGuard : Try.prog.eqGuardType Try.prog.depth 31 = false := by kernel_rfl
theorem mtRun (n : ByteArray) (x y z : Int) (W : World) : (Op.equalIn 10000 31 (.agg #[.string n, .int .i64 x, .int .i64 y, .int .i64 z]) (.agg #[.string n, .int .i64 x, .int .i64 y, .int .i64 z])).run Try.prog W = .ok true W := by
  have u9 := Try.underlying9
  have a9 := Try.isAgg9
  have z9 := Try.sizeOf9
  have u3 := Try.underlying3
  have a3 := Try.isAgg3
  have z3 := Try.sizeOf3
  rw [show (10000 : Nat) = 9999 + 1 from rfl, run_equalIn_agg W 9999 31 _ _ mtFields mtHeld]
  simp only [Program.fieldsOf, Try.underlying31]
  go_simp

theorem box4 {X : World} {b : Nat} {v0 v1 v2 v3 : Value} {t : TypeId} (h : X.heap[b]? = some (.cells #[v0, v1, v2, v3] t)) : X.cell? ⟨b, 0, none⟩ = some v0 ∧ X.cell? ⟨b, 1, none⟩ = some v1 ∧ X.cell? ⟨b, 2, none⟩ = some v2 ∧ X.cell? ⟨b, 3, none⟩ = some v3 :=
  ⟨World.news_of_block h 0 _ rfl, World.news_of_block h 1 _ rfl, World.news_of_block h 2 _ rfl, World.news_of_block h 3 _ rfl⟩

set_option maxRecDepth 100000 in
set_option maxHeartbeats 4000000 in
theorem planLaw_any (v : Value) (l : List Mt) (newest horizon width : Int) (w : World) (h : MtAt w v l) (hsz : ∀ m ∈ l, m.nm.size ≤ maxLen) :
    Calls Try.prog 3 #[.agg #[v, .int .i64 newest, .int .i64 horizon, .int .i64 width]] w fun e w' => e = .returned (.bool true) ∧ Below w.heap.size w w' := by
  obtain ⟨a1, c1, rfl, hcl, -⟩ := id h
  have HFW : Hid (∀ W, Calls Try.prog 5 #[.slice a1 l.length c1] W fun e w' => e = .returned (.slice a1 (min l.length 30) c1) ∧ w' = W) := fun W => few_val a1 l.length c1 W hcl.1 hcl.2
  obtain ⟨L, hL⟩ : ∃ L, L = l.take 30 := ⟨_, rfl⟩
  have hLl : L.length = min l.length 30 := by rw [hL, List.length_take]; omega
  have HSZ : Hid (∀ m ∈ L, m.nm.size ≤ maxLen) := fun m hm => hsz m (by rw [hL] at hm; exact List.mem_of_mem_take hm)
  have hat : MtAt w (.slice a1 L.length c1) L := by
    have h9 := MtAt.take h (min l.length 30) (by omega)
    rw [hLl]
    have e : l.take (min l.length 30) = L := by rw [hL, List.take_eq_take_iff]; omega
    rw [e] at h9
    exact h9
  rw [← hLl] at HFW
  have hl30 : L.length ≤ 30 := by omega
  have HLA : Hid (∀ W, Below w.heap.size w W → MtAt W (.slice a1 L.length c1) L) := fun W hW => RowAt.below hat hW
  clear hL hLl h hsz hat hcl
  obtain ⟨W0, hW0⟩ : ∃ W0, W0 = w.alloc (.cells #[.slice a1 l.length c1, .int .i64 newest, .int .i64 horizon, .int .i64 width] 24) := ⟨_, rfl⟩
  have hbx : W0.heap[w.heap.size]? = some (.cells #[.slice a1 l.length c1, .int .i64 newest, .int .i64 horizon, .int .i64 width] 24) := by rw [hW0]; exact heap_alloc_new w _
  have k0 : W0.cell? ⟨w.heap.size, 0, none⟩ = some (.slice a1 l.length c1) := World.news_of_block hbx 0 _ rfl
  have k1 : W0.cell? ⟨w.heap.size, 1, none⟩ = some (.int .i64 newest) := World.news_of_block hbx 1 _ rfl
  have k2 : W0.cell? ⟨w.heap.size, 2, none⟩ = some (.int .i64 horizon) := World.news_of_block hbx 2 _ rfl
  have k3 : W0.cell? ⟨w.heap.size, 3, none⟩ = some (.int .i64 width) := World.news_of_block hbx 3 _ rfl
  have HB0 : Hid (Below w.heap.size w W0) := by rw [hW0]; exact (Below.refl _ _).alloc (Nat.le_refl _) _
  clear hbx
  go_enter Try.func3, Try.ntmps3
  go_wp2_with fail
  rw [← hW0]
  clear hW0
  go_quiet (first | (go_at_call 5; exact Calls.quiet_of_same (HFW.out _)))
  generalize hW1 : W0.drewN nq = W1
  have HB1 : Hid (Below w.heap.size w W1) := by rw [← hW1]; exact below_drewN HB0.out nq
  have hs1 := HB1.out.size
  clear hW1 HB0 k0 k1 k2 k3 HFW
  have HSR : Hid (∀ X, Below W1.heap.size W1 X → MtAt X (.slice a1 L.length c1) L) := fun X hX => HLA.out X (HB1.out.trans (hX.mono hs1))
  go_upto_region 3 with (at_builtin; refine wpList_append_row appMt _ rfl _ _ rfl W1.heap.size (.slice (some ⟨W1.heap.size, 0, none⟩) 0 0) 0 [] rfl (row_empty W1 _ _ (Nat.le_refl _)) _ L.length (mtC L) rfl (HSR.out _ ((Below.refl _ _).alloc (Nat.le_refl _) _)) (mtC_one _) (by omega) (by simp) ?_; intro a5 c5 w5 hr5 hg5 _; rw [Nat.zero_add, List.nil_append] at hr5; rw [Nat.zero_add])
  have hb5 : Below W1.heap.size W1 w5 := ((Below.refl _ W1).alloc (Nat.le_refl _) _).grown hg5 (by simp) (fun i hi => by simp [Value.ownBlock] at hi; omega)
  have HB5 : Hid (Below w.heap.size w w5) := HB1.out.trans (hb5.mono hs1)
  have hs5 := HB5.out.size
  have HIA : Hid (∀ X, Below w5.heap.size w5 X → MtAt X (.slice a5 L.length c5) L) := fun X hX => RowAt.below (RowAt.of_row hr5) hX
  have HLB : Hid (∀ X, Below w5.heap.size w5 X → MtAt X (.slice a1 L.length c1) L) := fun X hX => HLA.out X (HB5.out.trans (hX.mono hs5))
  clear hr5 hg5 hb5 HSR HB1 hs1 HLA
  have HPL : Hid (Calls Try.prog 6 #[.slice a5 L.length c5, .int .i64 newest, .int .i64 width] w5 fun e w' => ∃ a c ns, e = .returned (.slice a ns.length c) ∧ PlanOf L (cl newest) (wdF width) ns ∧ ns.length ≤ 2000 ∧ w'.ownsRow w5.heap.size 9 1 (.slice a ns.length c) ns.length (stC ns) ∧ Below w5.heap.size w5 w') := plan_any _ L newest width w5 (HIA.out _ (Below.refl _ _)) (by omega)
  go_upto_region 4 with (go_at_call 6; refine HPL.out.mono ?_; clear HPL; rintro e w6 ⟨a6, c6, ns, rfl, hpo, hnl, hr6, hb6⟩)
  have hs6 := hb6.size
  have HNS : Hid (∀ X, Below w6.heap.size w6 X → StAt X (.slice a6 ns.length c6) ns) := fun X hX => RowAt.below (RowAt.of_row hr6) hX
  have HPO : Hid (PlanOf L (cl newest) (wdF width) ns) := hpo
  have HB6 : Hid (Below w5.heap.size w5 w6) := hb6
  have HTX : Hid (∀ W v u ms, StAt W v ms → StAt W u ms → Calls Try.prog 7 #[v, u] W fun e w' => e = .returned (.bool true) ∧ Below W.heap.size W w') := fun W v u ms h1 h2 => texts_same v u ms W h1 h2
  have HRP : Hid (Calls Try.prog 8 #[.slice a1 L.length c1, .int .i64 newest, .int .i64 width] w6 fun e w' => ∃ a c, e = .returned (.slice a ns.length c) ∧ StAt w' (.slice a ns.length c) ns ∧ Below w6.heap.size w6 w') := by
    refine (refPlan_any _ L newest width w6 (HLB.out _ hb6) (by omega)).mono ?_
    rintro e w7 ⟨a7, c7, ns', rfl, hpr, hst, hb7⟩
    have e9 := plan_same (cl_in newest).2 hpo hpr
    subst e9
    exact ⟨a7, c7, rfl, hst, hb7⟩
  have HRM : Hid (∀ W, Below w5.heap.size w5 W → Calls Try.prog 9 #[.slice a5 L.length c5, .int .i64 horizon] W fun e w' => ∃ a c, e = .returned (.slice a (remF horizon L).length c) ∧ w'.ownsRow W.heap.size 9 1 (.slice a (remF horizon L).length c) (remF horizon L).length (stC (remF horizon L)) ∧ Below W.heap.size W w') := fun W hW => removed_any _ L horizon W (HIA.out _ hW) (by omega)
  have HRR : Hid (∀ W, Below w5.heap.size w5 W → Calls Try.prog 10 #[.slice a1 L.length c1, .int .i64 horizon] W fun e w' => ∃ a c, e = .returned (.slice a (remF horizon L).length c) ∧ w'.ownsRow W.heap.size 9 1 (.slice a (remF horizon L).length c) (remF horizon L).length (stC (remF horizon L)) ∧ Below W.heap.size W w') := fun W hW => refRemoved_any _ L horizon W (HLB.out _ hW) (by omega)
  clear hpo hr6 hb6
  generalize remF horizon L = rm at *
  go_upto_region 6 with (first
    | (go_at_call 8; refine HRP.out.mono ?_; clear HRP; rintro e w7 ⟨a7, c7, rfl, hst, hb7⟩; have HT : Hid (Calls Try.prog 7 #[.slice a6 ns.length c6, .slice a7 ns.length c7] w7 fun e w' => e = .returned (.bool true) ∧ Below w7.heap.size w7 w') := HTX.out _ _ _ ns (HNS.out _ hb7) hst; have HW : Hid (Below w6.heap.size w6 w7) := hb7; clear hst hb7)
    | (go_at_call 7; refine HT.out.mono ?_; clear HT; rintro e w8 ⟨rfl, hb8⟩; have hx9 := HW.out.trans (hb8.mono HW.out.size); clear HW hb8; have HW : Hid (Below w6.heap.size w6 w8) := hx9; clear hx9)
    | (go_at_call 9; refine (HRM.out _ (HB6.out.trans (HW.out.mono hs6))).mono ?_; clear HRM; rintro e w9 ⟨a9, c9, rfl, hr9, hb9⟩; have hx9 := HW.out.trans (hb9.mono HW.out.size); clear HW hb9; have HW : Hid (Below w6.heap.size w6 w9) := hx9; have HR9 : Hid (StAt w9 (.slice a9 rm.length c9) rm) := RowAt.of_row hr9; clear hx9 hr9)
    | (go_at_call 10; refine (HRR.out _ (HB6.out.trans (HW.out.mono hs6))).mono ?_; clear HRR; rintro e w10 ⟨a10, c10, rfl, hr10, hb10⟩; have HT : Hid (Calls Try.prog 7 #[.slice a9 rm.length c9, .slice a10 rm.length c10] w10 fun e w' => e = .returned (.bool true) ∧ Below w10.heap.size w10 w') := HTX.out _ _ _ rm (RowAt.below HR9.out hb10) (RowAt.of_row hr10); have hx9 := HW.out.trans (hb10.mono HW.out.size); clear HW hb10 hr10; have HW : Hid (Below w6.heap.size w6 w10) := hx9; clear hx9))
  have HB8 : Hid (Below w5.heap.size w5 w8) := HB6.out.trans (HW.out.mono hs6)
  have hs8 := HB8.out.size
  have HN8 : Hid (∀ X, Below w8.heap.size w8 X → StAt X (.slice a6 ns.length c6) ns) := fun X hX => HNS.out X (HW.out.trans (hX.mono HW.out.size))
  have HI8 : Hid (∀ X, Below w8.heap.size w8 X → MtAt X (.slice a5 L.length c5) L) := fun X hX => HIA.out X (HB8.out.trans (hX.mono hs8))
  have HL8 : Hid (∀ X, Below w8.heap.size w8 X → MtAt X (.slice a1 L.length c1) L) := fun X hX => HLB.out X (HB8.out.trans (hX.mono hs8))
  have HBW : Hid (Below w.heap.size w w8) := HB5.out.trans (HB8.out.mono hs5)
  have hsz8 := HBW.out.size
  have hpl := planOf_len HPO.out (by unfold wdF; omega)
  have hmem := planOf_mem HPO.out
  obtain ⟨jl, jh, jv, hjv⟩ := joinV_form (joinF ns L)
  rw [joinF_1] at hjv
  obtain ⟨D, hD⟩ : ∃ D, D = decide (2 ≤ L.countP (inF ns)) := ⟨_, rfl⟩
  rw [← hD] at hjv
  have HJ : Hid (Calls Try.prog 11 #[.slice a5 L.length c5, .slice a6 ns.length c6] w8 fun e w' => e = .returned (.tuple #[.agg #[.string ByteArray.empty, .int .i64 jl, .int .i64 jh, .int .i64 jv], .bool D]) ∧ Below w8.heap.size w8 w') := by
    have h9 := joined_any (.slice a5 L.length c5) (.slice a6 ns.length c6) L ns w8 (HI8.out _ (Below.refl _ _)) (HN8.out _ (Below.refl _ _)) (by omega) (by omega) (fun n hn => by obtain ⟨m, hm, rfl⟩ := hmem n hn; exact HSZ.out m hm) HSZ.out
    rw [hjv] at h9
    exact h9
  have HRJ : Hid (∀ W, Below w8.heap.size w8 W → Calls Try.prog 12 #[.slice a1 L.length c1, .slice a6 ns.length c6] W fun e w' => e = .returned (.tuple #[.agg #[.string ByteArray.empty, .int .i64 jl, .int .i64 jh, .int .i64 jv], .bool D]) ∧ Below W.heap.size W w') := fun W hW => by
    have h9 := refJoined_any (.slice a1 L.length c1) (.slice a6 ns.length c6) L ns W (HL8.out _ hW) (HN8.out _ hW) (by omega) (by omega)
    rw [hjv] at h9
    exact h9
  have hDn : (D = true ∧ (2 : Int) ≤ (ns.length : Int)) ∨ (D = false ∧ ¬ (2 : Int) ≤ (ns.length : Int)) := by
    rcases hpl with ⟨e, h9⟩ | ⟨h9, h10⟩
    · right
      refine ⟨by rw [hD, h9]; rfl, by rw [e]; simp⟩
    · left
      exact ⟨by rw [hD]; simpa using h10, by omega⟩
  have hq3 := mtGuard
  have hrun := fun W => mtRun ByteArray.empty jl jh jv W
  clear hD hpl hmem hjv HNS HPO HB6 HTX HW HIA HLB HB5 HB8
  rcases hDn with ⟨rfl, hge⟩ | ⟨rfl, hge⟩
  · skip
    go_upto_region 8 with (first
      | (go_at_call 11; refine HJ.out.mono ?_; clear HJ; rintro e w11 ⟨rfl, hb11⟩; have HW : Hid (Below w8.heap.size w8 w11) := hb11; have hs11 := hb11.size; clear hb11)
      | (go_at_call 12; refine (HRJ.out _ ((HW.out.alloc hs11 _))).mono ?_; clear HRJ; rintro e w12 ⟨rfl, hb12⟩; have hs12 := hb12.size; have hx9 : Below w8.heap.size w8 w12 := (HW.out.alloc hs11 _).trans (hb12.mono (by simp; omega)); clear HW; have HW : Hid (Below w8.heap.size w8 w12) := hx9; have HC9 : Hid (w12.heap[w11.heap.size]? = some (.cells #[.string ByteArray.empty, .int .i64 jl, .int .i64 jh, .int .i64 jv] 31)) := (by rw [hb12.block w11.heap.size (by simp)]; exact heap_alloc_new w11 _); clear hx9 hb12))
    obtain ⟨V, hV⟩ : ∃ V, V = w12.alloc (.cells #[.string ByteArray.empty, .int .i64 jl, .int .i64 jh, .int .i64 jv] 31) := ⟨_, rfl⟩
    rw [← hV]
    obtain ⟨p0, p1, p2, p3⟩ := box4 (show V.heap[w11.heap.size]? = _ by rw [hV, Below.heap_alloc _ _ _ (Array.getElem?_eq_some_iff.1 HC9.out).1]; exact HC9.out)
    obtain ⟨r0, r1, r2, r3⟩ := box4 (show V.heap[w12.heap.size]? = _ by rw [hV]; exact heap_alloc_new w12 _)
    have HVB : Hid (Below w8.heap.size w8 V) := by rw [hV]; exact HW.out.alloc HW.out.size _
    have hsV := HVB.out.size
    clear hV HC9 HW hs12 hs11
    generalize w11.heap.size = J1 at *
    generalize w12.heap.size = J2 at *
    go_wp2_with fail
    go_loopg [13] L.length (fun g i wx => ∃ (k : Nat), k ≤ L.length ∧ g = L.length - k ∧ i = .int .i64 k ∧ Hid (Below V.heap.size V wx))
    case atStart => exact ⟨0, Nat.zero_le _, rfl, rfl, Below.refl _ _⟩
    case round =>
      obtain ⟨k, hk, hgk, rfl, hbv⟩ := hrel
      have hbn := fun q => below_drewN (Below.refl wr.heap.size wr) q
      have hsv := hbv.out.size
      have hb8 : Below w8.heap.size w8 wr := HVB.out.trans (hbv.out.mono hsV)
      clear hrun p0 p1 p2 p3 r0 r1 r2 r3
      by_cases hlt : k < L.length
      · obtain ⟨b0, o0, e0, hone⟩ := MtAt.one (HI8.out wr hb8) k hlt
        obtain ⟨b1, o1, e1, hone1⟩ := MtAt.one (HL8.out wr hb8) k hlt
        obtain ⟨g0, g1, g2, g3⟩ := hone wr (Below.refl _ _)
        obtain ⟨y0, y1, y2, y3⟩ := hone1 wr (Below.refl _ _)
        subst e0 e1
        generalize L[k] = m at *
        obtain ⟨mn, m1, m2, m3⟩ := m
        dsimp only at g0 g1 g2 g3 y0 y1 y2 y3
        have hkl : (k : Int) < (L.length : Int) := by omega
        have hrun := fun W => mtRun mn m1 m2 m3 W
        clear hone hone1 hb8
        go_wp2_with fail
        go_quiet (fail)
        go_wp2_with fail
        go_roundg (L.length - (k + 1))
        case rel => exact ⟨k + 1, by omega, rfl, by go_num, hbv.out.trans ((hbn nq).mono hsv)⟩
        case measure => omega
      · have hkl : ¬ (k : Int) < (L.length : Int) := by omega
        have HWK : Hid (Calls Try.prog 13 #[] wr fun e w' => e = .returned (.bool true) ∧ Below wr.heap.size wr w') := wakes_any wr
        have HB9 : Hid (Below w.heap.size w wr) := HBW.out.trans (hb8.mono hsz8)
        go_wp2_with (go_at_call 13; refine HWK.out.mono ?_; clear HWK; rintro e w13 ⟨rfl, hb13⟩)
        go_ret
        exact ⟨rfl, HB9.out.trans (hb13.mono HB9.out.size)⟩
  · skip
    go_upto_region 8 with (first
      | (go_at_call 11; refine HJ.out.mono ?_; clear HJ; rintro e w11 ⟨rfl, hb11⟩; have HW : Hid (Below w8.heap.size w8 w11) := hb11; have hs11 := hb11.size; clear hb11)
      | (go_at_call 12; refine (HRJ.out _ ((HW.out.alloc hs11 _))).mono ?_; clear HRJ; rintro e w12 ⟨rfl, hb12⟩; have hs12 := hb12.size; have hx9 : Below w8.heap.size w8 w12 := (HW.out.alloc hs11 _).trans (hb12.mono (by simp; omega)); clear HW; have HW : Hid (Below w8.heap.size w8 w12) := hx9; have HC9 : Hid (w12.heap[w11.heap.size]? = some (.cells #[.string ByteArray.empty, .int .i64 jl, .int .i64 jh, .int .i64 jv] 31)) := (by rw [hb12.block w11.heap.size (by simp)]; exact heap_alloc_new w11 _); clear hx9 hb12))
    obtain ⟨V, hV⟩ : ∃ V, V = w12.alloc (.cells #[.string ByteArray.empty, .int .i64 jl, .int .i64 jh, .int .i64 jv] 31) := ⟨_, rfl⟩
    rw [← hV]
    obtain ⟨p0, p1, p2, p3⟩ := box4 (show V.heap[w11.heap.size]? = _ by rw [hV, Below.heap_alloc _ _ _ (Array.getElem?_eq_some_iff.1 HC9.out).1]; exact HC9.out)
    obtain ⟨r0, r1, r2, r3⟩ := box4 (show V.heap[w12.heap.size]? = _ by rw [hV]; exact heap_alloc_new w12 _)
    have HVB : Hid (Below w8.heap.size w8 V) := by rw [hV]; exact HW.out.alloc HW.out.size _
    have hsV := HVB.out.size
    clear hV HC9 HW hs12 hs11
    generalize w11.heap.size = J1 at *
    generalize w12.heap.size = J2 at *
    go_wp2_with fail
    go_loopg [13] L.length (fun g i wx => ∃ (k : Nat), k ≤ L.length ∧ g = L.length - k ∧ i = .int .i64 k ∧ Hid (Below V.heap.size V wx))
    case atStart => exact ⟨0, Nat.zero_le _, rfl, rfl, Below.refl _ _⟩
    case round =>
      obtain ⟨k, hk, hgk, rfl, hbv⟩ := hrel
      have hbn := fun q => below_drewN (Below.refl wr.heap.size wr) q
      have hsv := hbv.out.size
      have hb8 : Below w8.heap.size w8 wr := HVB.out.trans (hbv.out.mono hsV)
      clear hrun p0 p1 p2 p3 r0 r1 r2 r3
      by_cases hlt : k < L.length
      · obtain ⟨b0, o0, e0, hone⟩ := MtAt.one (HI8.out wr hb8) k hlt
        obtain ⟨b1, o1, e1, hone1⟩ := MtAt.one (HL8.out wr hb8) k hlt
        obtain ⟨g0, g1, g2, g3⟩ := hone wr (Below.refl _ _)
        obtain ⟨y0, y1, y2, y3⟩ := hone1 wr (Below.refl _ _)
        subst e0 e1
        generalize L[k] = m at *
        obtain ⟨mn, m1, m2, m3⟩ := m
        dsimp only at g0 g1 g2 g3 y0 y1 y2 y3
        have hkl : (k : Int) < (L.length : Int) := by omega
        have hrun := fun W => mtRun mn m1 m2 m3 W
        clear hone hone1 hb8
        go_wp2_with fail
        go_quiet (fail)
        go_wp2_with fail
        go_roundg (L.length - (k + 1))
        case rel => exact ⟨k + 1, by omega, rfl, by go_num, hbv.out.trans ((hbn nq).mono hsv)⟩
        case measure => omega
      · have hkl : ¬ (k : Int) < (L.length : Int) := by omega
        have HWK : Hid (Calls Try.prog 13 #[] wr fun e w' => e = .returned (.bool true) ∧ Below wr.heap.size wr w') := wakes_any wr
        have HB9 : Hid (Below w.heap.size w wr) := HBW.out.trans (hb8.mono hsz8)
        go_wp2_with (go_at_call 13; refine HWK.out.mono ?_; clear HWK; rintro e w13 ⟨rfl, hb13⟩)
        go_ret
        exact ⟨rfl, HB9.out.trans (hb13.mono HB9.out.size)⟩

end Go.Proofs.Ytfkahbgphoonaaa
