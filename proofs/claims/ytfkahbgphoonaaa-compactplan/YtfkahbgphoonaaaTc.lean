/- The document's lot, walked. -/
import Derived.Test.YtfkahbgphoonaaaTp
import Derived.Test.YtfkahbgphoonaaaTa
namespace Go.Proofs.Ytfkahbgphoonaaa
open Go.RowKit Go.Shelf Go.Maps Go.Sort

theorem nle_of {x y : Mt} (h : cl y.lo < cl x.lo) : ¬ KLt x y := by rw [KLt_iff]; intro h9; omega
theorem nle_eq {x y : Mt} (h : cl y.lo = cl x.lo) (hn : ¬ x.nm.toList < y.nm.toList) : ¬ KLt x y := by
  rw [KLt_iff]
  rintro (h9 | ⟨-, h9⟩)
  · omega
  · exact hn h9
theorem lt_of {x y : Mt} (h : cl x.lo < cl y.lo) : KLt x y := (KLt_iff x y).2 (Or.inl h)
theorem lt_eq {x y : Mt} (h : cl y.lo = cl x.lo) (hn : x.nm.toList < y.nm.toList) : KLt x y := (KLt_iff x y).2 (Or.inr ⟨h.symm, hn⟩)
theorem bless_asymm {x y : List UInt8} (h : Op.bytesLess x y = true) : ¬ y < x := by
  rw [bytesLess_eq, decide_eq_true_iff] at h
  exact fun h9 => List.lt_irrefl x (List.lt_trans h h9)
theorem bless_eq {x y : List UInt8} (h : (x == y) = true) : ¬ y < x := by
  have : x = y := by simpa using h
  subst this
  exact List.lt_irrefl x
theorem bless_not {x y : List UInt8} (h : Op.bytesLess x y = false) (h2 : (x == y) = false) : y < x := by
  rw [bytesLess_eq, decide_eq_false_iff_not] at h
  have hne : x ≠ y := by simpa using h2
  refine Classical.byContradiction fun h9 => hne ?_
  rw [List.not_lt] at h h9
  exact List.le_antisymm h9 h

set_option maxRecDepth 100000 in
set_option maxHeartbeats 4000000 in
theorem lot_any (v : Value) (L : List Mt) (level b s : Int) (w : World) (h : MtAt w v L) (hl : L.length ≤ 1000) (hb : -2000000000000000000 ≤ b ∧ b ≤ 9007199254740992) (hs : 1 ≤ s ∧ s ≤ 900719925474099300) :
    Calls Try.prog 21 #[v, .int .i64 level, .int .i64 b, .int .i64 s] w fun e w' => ∃ a c out, e = .returned (.slice a out.length c) ∧ LotOf level b s L out ∧ MtAt w' (.slice a out.length c) out ∧ Below w.heap.size w w' := by
  obtain ⟨a1, c1, rfl, -⟩ := id h
  have HL : Hid (MtAt w (.slice a1 L.length c1) L) := h
  have HIN : Hid (∀ t W, Calls Try.prog 20 #[.int .i64 t] W fun e w' => e = .returned (.int .i64 (cl t)) ∧ w' = W) := fun t W => refInside t W
  have hwf : IntKind.i64.wrap (b + s) = b + s := by rw [IntKind.wrap_i64]; omega
  clear h
  go_enter Try.func21, Try.ntmps21
  go_wp2
  go_loopg [9, 10] L.length (fun g vo i wr => ∃ (k : Nat) (out : List Mt) (a : Option Addr) (c : Nat), k ≤ L.length ∧ g = L.length - k ∧ i = .int .i64 k ∧ vo = .slice a out.length c ∧ Hid (LotOf level b s (L.take k) out) ∧ Hid (MtAt wr (.slice a out.length c) out) ∧ Hid (Below w.heap.size w wr))
  case atStart => exact ⟨0, [], none, 0, Nat.zero_le _, rfl, rfl, rfl, LotOf.nil _ _ _, RowAt.none4 _ _ (Nat.zero_le _), Below.refl _ _⟩
  case round =>
    obtain ⟨k, out, a, c, hk, hgk, rfl, rfl, hlot, hat, hbel⟩ := hrel
    have hsw := hbel.out.size
    have hol := hlot.out.le
    rw [List.length_take] at hol
    by_cases hlt : k < L.length
    · obtain ⟨b0, o0, e0, hone⟩ := MtAt.one HL.out k hlt
      subst e0
      obtain ⟨g0, g1, g2, g3⟩ := hone wr hbel.out
      have HTK : Hid (L.take (k + 1) = L.take k ++ [L[k]]) := List.take_succ_eq_append_getElem hlt
      generalize L[k] = m at *
      obtain ⟨mn, m1, m2, m3⟩ := m
      dsimp only at g0 g1 g2 g3
      have hkl : (k : Int) < (L.length : Int) := by omega
      clear hone
      cases hst : stB level b s ⟨mn, m1, m2, m3⟩
      · have HSK : Hid (LotOf level b s (L.take (k + 1)) out) := by show LotOf _ _ _ _ _; rw [HTK.out]; exact hlot.out.skip hst
        have HEND : Hid (∀ o, MtAt (wr.alloc o) (.slice a out.length c) out ∧ Below w.heap.size w (wr.alloc o)) := fun o => ⟨RowAt.below hat.out ((Below.refl _ _).alloc (Nat.le_refl _) _), hbel.out.alloc hsw _⟩
        have hno : ¬ (m3 = level ∧ b ≤ cl m1 ∧ cl m2 ≤ b + s ∧ cl m1 ≤ b + s ∧ b ≤ cl m2) := by simpa [stB] using hst
        clear hst
        by_cases h1 : m3 = level
        · subst h1
          by_cases h2 : cl m1 < b
          · clear hno
            go_wp2_with (go_at_call 20; refine (HIN.out _ _).mono ?_; rintro e w1 ⟨rfl, e8⟩; have e8 := e8.symm; subst e8)
            go_roundg (L.length - (k + 1))
            case rel => exact ⟨k + 1, out, a, c, by omega, rfl, by go_num, rfl, HSK.out, (HEND.out _).1, (HEND.out _).2⟩
            case measure => omega
          · by_cases h3 : cl m2 > b + s
            · clear hno
              go_wp2_with (go_at_call 20; refine (HIN.out _ _).mono ?_; rintro e w1 ⟨rfl, e8⟩; have e8 := e8.symm; subst e8)
              go_roundg (L.length - (k + 1))
              case rel => exact ⟨k + 1, out, a, c, by omega, rfl, by go_num, rfl, HSK.out, (HEND.out _).1, (HEND.out _).2⟩
              case measure => omega
            · by_cases h4 : cl m1 > b + s
              · clear hno
                go_wp2_with (go_at_call 20; refine (HIN.out _ _).mono ?_; rintro e w1 ⟨rfl, e8⟩; have e8 := e8.symm; subst e8)
                go_roundg (L.length - (k + 1))
                case rel => exact ⟨k + 1, out, a, c, by omega, rfl, by go_num, rfl, HSK.out, (HEND.out _).1, (HEND.out _).2⟩
                case measure => omega
              · have h5 : cl m2 < b := by
                  by_cases h5 : cl m2 < b
                  · exact h5
                  · exact absurd ⟨rfl, by omega, by omega, by omega, by omega⟩ hno
                clear hno
                go_wp2_with (go_at_call 20; refine (HIN.out _ _).mono ?_; rintro e w1 ⟨rfl, e8⟩; have e8 := e8.symm; subst e8)
                go_roundg (L.length - (k + 1))
                case rel => exact ⟨k + 1, out, a, c, by omega, rfl, by go_num, rfl, HSK.out, (HEND.out _).1, (HEND.out _).2⟩
                case measure => omega
        · clear hno
          go_wp2_with (go_at_call 20; refine (HIN.out _ _).mono ?_; rintro e w1 ⟨rfl, e8⟩; have e8 := e8.symm; subst e8)
          go_roundg (L.length - (k + 1))
          case rel => exact ⟨k + 1, out, a, c, by omega, rfl, by go_num, rfl, HSK.out, (HEND.out _).1, (HEND.out _).2⟩
          case measure => omega
      · have hyes : m3 = level ∧ b ≤ cl m1 ∧ cl m2 ≤ b + s ∧ cl m1 ≤ b + s ∧ b ≤ cl m2 := by simpa [stB] using hst
        obtain ⟨e1, e2, e3, e4, e5⟩ := hyes
        subst e1
        have f2 : ¬ cl m1 < b := by omega
        have f3 : ¬ cl m2 > b + s := by omega
        have f4 : ¬ cl m1 > b + s := by omega
        have f5 : ¬ cl m2 < b := by omega
        clear e2 e3 e4 e5
        go_wp2_with (go_at_call 20; refine (HIN.out _ _).mono ?_; rintro e w1 ⟨rfl, e8⟩; have e8 := e8.symm; subst e8)
        obtain ⟨V, hV⟩ : ∃ V, V = wr.alloc (.cells #[.string mn, .int .i64 m1, .int .i64 m2, .int .i64 m3] 31) := ⟨_, rfl⟩
        rw [← hV]
        have HVB : Hid (Below w.heap.size w V) := by rw [hV]; exact hbel.out.alloc hsw _
        have HVM : Hid (V.heap[wr.heap.size]? = some (.cells #[.string mn, .int .i64 m1, .int .i64 m2, .int .i64 m3] 31)) := by rw [hV]; exact heap_alloc_new wr _
        have HVA : Hid (MtAt V (.slice a out.length c) out) := by rw [hV]; exact RowAt.below hat.out ((Below.refl _ _).alloc (Nat.le_refl _) _)
        have hVs : V.heap.size = wr.heap.size + 1 := by rw [hV]; simp
        clear hV hat hbel g0 g1 g2 g3 f2 f3 f4 f5
        generalize wr.heap.size = M at *
        have HMW : Hid (∀ X, Below V.heap.size V X → X.cell? ⟨M, 0, none⟩ = some (.string mn) ∧ X.cell? ⟨M, 1, none⟩ = some (.int .i64 m1) ∧ X.cell? ⟨M, 2, none⟩ = some (.int .i64 m2) ∧ X.cell? ⟨M, 3, none⟩ = some (.int .i64 m3)) := fun X hX => by
          have hb9 := hX.block M (by omega)
          rw [HVM.out] at hb9
          exact ⟨World.news_of_block hb9 0 _ rfl, World.news_of_block hb9 1 _ rfl, World.news_of_block hb9 2 _ rfl, World.news_of_block hb9 3 _ rfl⟩
        go_loopg [12] out.length (fun g i wx => ∃ (j : Nat), j ≤ out.length ∧ g = out.length - j ∧ i = .int .i64 j ∧ Hid (∀ x (hx : x < out.length), x < j → ¬ KLt ⟨mn, m1, m2, m3⟩ out[x]) ∧ Hid (Below V.heap.size V wx))
        case atStart => exact ⟨0, Nat.zero_le _, rfl, rfl, fun x hx h => by omega, Below.refl _ _⟩
        case round =>
          obtain ⟨j, hj, hgj, rfl, hall, hbv⟩ := hrel
          have hbn := fun q => below_drewN (Below.refl wr.heap.size wr) q
          have hsv := hbv.out.size
          obtain ⟨g0, g1, g2, g3⟩ := HMW.out wr hbv.out
          obtain ⟨_, _, e9, hcl, hcm⟩ := RowAt.sub HVA.out
          cases e9
          have hmx : (c : Int) ≤ 9223372036854775807 := by unfold maxLen at hcm; omega
          by_cases hjl : j < out.length
          · obtain ⟨b3, o3, e3, hone3⟩ := MtAt.one HVA.out j hjl
            subst e3
            obtain ⟨y0, y1, y2, y3⟩ := hone3 wr hbv.out
            obtain ⟨y, hy⟩ : ∃ y, out[j] = y := ⟨_, rfl⟩
            rw [hy] at y0 y1 y2 y3
            obtain ⟨yn, z1, z2, z3⟩ := y
            dsimp only at y0 y1 y2 y3
            have hjl2 : (j : Int) < (out.length : Int) := by omega
            have HY : Hid (out[j] = ⟨yn, z1, z2, z3⟩) := hy
            clear hone3 hy
            by_cases hq1 : cl z1 < cl m1
            · have HLE : Hid (cl z1 < cl m1) := hq1
              go_wp2_with fail
              go_quiet (first | (go_at_call 20; exact Calls.quiet_of_same (HIN.out _ _)))
              go_wp2_with fail
              go_roundg (out.length - (j + 1))
              case rel =>
                refine ⟨j + 1, by omega, rfl, by go_num, fun x hx h9 => ?_, hbv.out.trans ((hbn nq).mono hsv)⟩
                rcases Nat.lt_or_ge x j with h8 | h8
                · exact hall.out x hx h8
                · obtain rfl : x = j := by omega
                  rw [HY.out]
                  exact nle_of HLE.out
              case measure => omega
            · by_cases hq2 : cl z1 = cl m1
              · have hq2b : (cl z1 == cl m1) = true := by simp [hq2]
                have HQ2 : Hid (cl z1 = cl m1) := hq2
                clear hq2
                cases hs1 : Op.bytesLess yn.toList mn.toList
                · cases hs2 : yn.toList == mn.toList
                  · have HLE : Hid (mn.toList < yn.toList) := bless_not hs1 hs2
                    have HPUT : Hid (LotOf m3 b s (L.take (k + 1)) (out.take j ++ [⟨mn, m1, m2, m3⟩] ++ out.drop j)) := by
                      show LotOf _ _ _ _ _
                      rw [HTK.out]
                      exact hlot.out.put hst j hj hall.out (fun hj9 => by rw [HY.out]; exact lt_eq HQ2.out HLE.out)
                    clear hall HY HLE
                    go_upto_region 8 with fail
                    go_quiet (first | (go_at_call 20; exact Calls.quiet_of_same (HIN.out _ _)))
                    generalize hV9 : wr.drewN nq = wq
                    have hb9 : Below wr.heap.size wr wq := by rw [← hV9]; exact hbn nq
                    have hs9 := hb9.size
                    have HBQ : Hid (Below V.heap.size V wq) := hbv.out.trans (hb9.mono hsv)
                    have hsq := HBQ.out.size
                    clear hV9 hb9 hbn hbv g0 g1 g2 g3 y0 y1 y2 y3
                    have hswr : w.heap.size ≤ wq.heap.size := Nat.le_trans HVB.out.size hsq
                    have HBW : Hid (Below w.heap.size w wq) := HVB.out.trans (HBQ.out.mono HVB.out.size)
                    have HMC : Hid (∀ X, Below wq.heap.size wq X → X.cell? ⟨M, 0, none⟩ = some (.string mn) ∧ X.cell? ⟨M, 1, none⟩ = some (.int .i64 m1) ∧ X.cell? ⟨M, 2, none⟩ = some (.int .i64 m2) ∧ X.cell? ⟨M, 3, none⟩ = some (.int .i64 m3)) := fun X hX => HMW.out X (HBQ.out.trans (hX.mono hsq))
                    have HXA : Hid (∀ X, Below wq.heap.size wq X → MtAt X (.slice (some ⟨b3, o3, none⟩) out.length c) out) := fun X hX => RowAt.below HVA.out (HBQ.out.trans (hX.mono hsq))
                    have HT0 : Hid (∀ X, Below wq.heap.size wq X → RowAt X (.slice (some ⟨b3, o3, none⟩) j c) 4 j (mtC (out.take j))) := fun X hX => by
                      have h9 := MtAt.take (HXA.out X hX) j hj
                      unfold MtAt at h9
                      rw [List.length_take, Nat.min_eq_left hj] at h9
                      exact h9
                    have hcj : (j : Int) ≤ (c : Int) := by omega
                    have HD0 : Hid (∀ X, Below wq.heap.size wq X → RowAt X (.slice (some ⟨b3, o3 + j * 4, none⟩) (out.length - j) (c - j)) 4 (out.length - j) (mtC (out.drop j))) := fun X hX => MtAt.drop (HXA.out X hX) j hj
                    have hcj2 : ¬ (c = j) := by omega
                    clear HXA
                    go_wp2_with (first
                      | (at_builtin; refine wpList_append_row appMt _ rfl _ _ rfl wq.heap.size (.slice (some ⟨wq.heap.size, 0, none⟩) 0 0) 0 [] rfl (row_empty wq _ _ (Nat.le_refl _)) _ j (mtC (out.take j)) rfl (HT0.out _ ((Below.refl _ _).alloc (Nat.le_refl _) _)) (mtC_one _) (by omega) (by simp) ?_; intro a5 c5 w5 hr5 hg5 _; rw [Nat.zero_add, List.nil_append] at hr5; rw [Nat.zero_add]; have hb5 : Below wq.heap.size wq w5 := ((Below.refl _ wq).alloc (Nat.le_refl _) _).grown hg5 (by simp) (fun i hi => by simp [Value.ownBlock] at hi; omega); have hs5 := hb5.size; have HB5 : Hid (Below wq.heap.size wq w5) := hb5; have HR5 : Hid (w5.ownsRow wq.heap.size 31 4 (.slice a5 j c5) j (mtC (out.take j))) := hr5; obtain ⟨t0, t1, t2, t3⟩ := HMC.out w5 hb5; clear hb5 hr5 hg5)
                      | (at_builtin; refine wpList_append_row appMt _ rfl _ _ rfl wq.heap.size (.slice a5 j c5) j (mtC (out.take j)) rfl (World.ownsRow.alloc HR5.out _) _ 1 [.string mn, .int .i64 m1, .int .i64 m2, .int .i64 m3] rfl (RowAt.of_block (cs := #[.string mn, .int .i64 m1, .int .i64 m2, .int .i64 m3]) (heap_alloc_new w5 _) rfl (by decide)) (by simp [Value.oneCell']) (by omega) (by simp; omega) ?_; intro a6 c6 w6 hr6 hg6 _; have hb6 : Below wq.heap.size wq w6 := (HB5.out.alloc hs5 _).grown hg6 (by simp; omega) (fun i hi => (World.ownsRow.lt HR5.out i hi).1); have hs6 := hb6.size; have HB6 : Hid (Below wq.heap.size wq w6) := hb6; have HR6 : Hid (w6.ownsRow wq.heap.size 31 4 (.slice a6 (j + 1) c6) (j + 1) (mtC (out.take j) ++ [.string mn, .int .i64 m1, .int .i64 m2, .int .i64 m3])) := hr6; clear hb6 hr6 hg6)
                      | (at_builtin; refine wpList_append_row appMt _ rfl _ _ rfl wq.heap.size (.slice a6 (j + 1) c6) (j + 1) (mtC (out.take j) ++ [.string mn, .int .i64 m1, .int .i64 m2, .int .i64 m3]) rfl HR6.out _ (out.length - j) (mtC (out.drop j)) rfl (HD0.out _ HB6.out) (mtC_one _) (by omega) hs6 ?_; intro a7 c7 w7 hr7 hg7 _; have hb7 : Below wq.heap.size wq w7 := HB6.out.grown hg7 hs6 (fun i hi => (World.ownsRow.lt HR6.out i hi).1); have HB7 : Hid (Below wq.heap.size wq w7) := hb7; have HR7 : Hid (w7.ownsRow wq.heap.size 31 4 (.slice a7 (j + 1 + (out.length - j)) c7) (j + 1 + (out.length - j)) (mtC (out.take j) ++ [.string mn, .int .i64 m1, .int .i64 m2, .int .i64 m3] ++ mtC (out.drop j))) := hr7; clear hb7 hr7 hg7))
                    all_goals
                      go_roundg (L.length - (k + 1))
                      case rel =>
                        have hnl : (out.take j ++ [(⟨mn, m1, m2, m3⟩ : Mt)] ++ out.drop j).length = j + 1 + (out.length - j) := by simp; omega
                        refine ⟨k + 1, out.take j ++ [(⟨mn, m1, m2, m3⟩ : Mt)] ++ out.drop j, a7, c7, by omega, rfl, by go_num, by rw [hnl], HPUT, ?_, HBW.out.trans (HB7.out.mono hswr)⟩
                        show MtAt _ _ _
                        unfold MtAt
                        rw [hnl, mtC_append, mtC_append]
                        exact RowAt.of_row HR7.out
                      case measure => omega
                  · have HLE : Hid (¬ mn.toList < yn.toList) := bless_eq hs2
                    go_wp2_with fail
                    go_quiet (first | (go_at_call 20; exact Calls.quiet_of_same (HIN.out _ _)))
                    go_wp2_with fail
                    go_roundg (out.length - (j + 1))
                    case rel =>
                      refine ⟨j + 1, by omega, rfl, by go_num, fun x hx h9 => ?_, hbv.out.trans ((hbn nq).mono hsv)⟩
                      rcases Nat.lt_or_ge x j with h8 | h8
                      · exact hall.out x hx h8
                      · obtain rfl : x = j := by omega
                        rw [HY.out]
                        exact nle_eq HQ2.out HLE.out
                    case measure => omega
                · have HLE : Hid (¬ mn.toList < yn.toList) := bless_asymm hs1
                  go_wp2_with fail
                  go_quiet (first | (go_at_call 20; exact Calls.quiet_of_same (HIN.out _ _)))
                  go_wp2_with fail
                  go_roundg (out.length - (j + 1))
                  case rel =>
                    refine ⟨j + 1, by omega, rfl, by go_num, fun x hx h9 => ?_, hbv.out.trans ((hbn nq).mono hsv)⟩
                    rcases Nat.lt_or_ge x j with h8 | h8
                    · exact hall.out x hx h8
                    · obtain rfl : x = j := by omega
                      rw [HY.out]
                      exact nle_eq HQ2.out HLE.out
                  case measure => omega
              · have hq2b : (cl z1 == cl m1) = false := by simp [hq2]
                have HLE : Hid (cl m1 < cl z1) := by show _ < _; omega
                clear hq2
                have HPUT : Hid (LotOf m3 b s (L.take (k + 1)) (out.take j ++ [⟨mn, m1, m2, m3⟩] ++ out.drop j)) := by
                  show LotOf _ _ _ _ _
                  rw [HTK.out]
                  exact hlot.out.put hst j hj hall.out (fun hj9 => by rw [HY.out]; exact lt_of HLE.out)
                clear hall HY HLE
                go_upto_region 8 with fail
                go_quiet (first | (go_at_call 20; exact Calls.quiet_of_same (HIN.out _ _)))
                generalize hV9 : wr.drewN nq = wq
                have hb9 : Below wr.heap.size wr wq := by rw [← hV9]; exact hbn nq
                have hs9 := hb9.size
                have HBQ : Hid (Below V.heap.size V wq) := hbv.out.trans (hb9.mono hsv)
                have hsq := HBQ.out.size
                clear hV9 hb9 hbn hbv g0 g1 g2 g3 y0 y1 y2 y3
                have hswr : w.heap.size ≤ wq.heap.size := Nat.le_trans HVB.out.size hsq
                have HBW : Hid (Below w.heap.size w wq) := HVB.out.trans (HBQ.out.mono HVB.out.size)
                have HMC : Hid (∀ X, Below wq.heap.size wq X → X.cell? ⟨M, 0, none⟩ = some (.string mn) ∧ X.cell? ⟨M, 1, none⟩ = some (.int .i64 m1) ∧ X.cell? ⟨M, 2, none⟩ = some (.int .i64 m2) ∧ X.cell? ⟨M, 3, none⟩ = some (.int .i64 m3)) := fun X hX => HMW.out X (HBQ.out.trans (hX.mono hsq))
                have HXA : Hid (∀ X, Below wq.heap.size wq X → MtAt X (.slice (some ⟨b3, o3, none⟩) out.length c) out) := fun X hX => RowAt.below HVA.out (HBQ.out.trans (hX.mono hsq))
                have HT0 : Hid (∀ X, Below wq.heap.size wq X → RowAt X (.slice (some ⟨b3, o3, none⟩) j c) 4 j (mtC (out.take j))) := fun X hX => by
                  have h9 := MtAt.take (HXA.out X hX) j hj
                  unfold MtAt at h9
                  rw [List.length_take, Nat.min_eq_left hj] at h9
                  exact h9
                have hcj : (j : Int) ≤ (c : Int) := by omega
                have HD0 : Hid (∀ X, Below wq.heap.size wq X → RowAt X (.slice (some ⟨b3, o3 + j * 4, none⟩) (out.length - j) (c - j)) 4 (out.length - j) (mtC (out.drop j))) := fun X hX => MtAt.drop (HXA.out X hX) j hj
                have hcj2 : ¬ (c = j) := by omega
                clear HXA
                go_wp2_with (first
                  | (at_builtin; refine wpList_append_row appMt _ rfl _ _ rfl wq.heap.size (.slice (some ⟨wq.heap.size, 0, none⟩) 0 0) 0 [] rfl (row_empty wq _ _ (Nat.le_refl _)) _ j (mtC (out.take j)) rfl (HT0.out _ ((Below.refl _ _).alloc (Nat.le_refl _) _)) (mtC_one _) (by omega) (by simp) ?_; intro a5 c5 w5 hr5 hg5 _; rw [Nat.zero_add, List.nil_append] at hr5; rw [Nat.zero_add]; have hb5 : Below wq.heap.size wq w5 := ((Below.refl _ wq).alloc (Nat.le_refl _) _).grown hg5 (by simp) (fun i hi => by simp [Value.ownBlock] at hi; omega); have hs5 := hb5.size; have HB5 : Hid (Below wq.heap.size wq w5) := hb5; have HR5 : Hid (w5.ownsRow wq.heap.size 31 4 (.slice a5 j c5) j (mtC (out.take j))) := hr5; obtain ⟨t0, t1, t2, t3⟩ := HMC.out w5 hb5; clear hb5 hr5 hg5)
                  | (at_builtin; refine wpList_append_row appMt _ rfl _ _ rfl wq.heap.size (.slice a5 j c5) j (mtC (out.take j)) rfl (World.ownsRow.alloc HR5.out _) _ 1 [.string mn, .int .i64 m1, .int .i64 m2, .int .i64 m3] rfl (RowAt.of_block (cs := #[.string mn, .int .i64 m1, .int .i64 m2, .int .i64 m3]) (heap_alloc_new w5 _) rfl (by decide)) (by simp [Value.oneCell']) (by omega) (by simp; omega) ?_; intro a6 c6 w6 hr6 hg6 _; have hb6 : Below wq.heap.size wq w6 := (HB5.out.alloc hs5 _).grown hg6 (by simp; omega) (fun i hi => (World.ownsRow.lt HR5.out i hi).1); have hs6 := hb6.size; have HB6 : Hid (Below wq.heap.size wq w6) := hb6; have HR6 : Hid (w6.ownsRow wq.heap.size 31 4 (.slice a6 (j + 1) c6) (j + 1) (mtC (out.take j) ++ [.string mn, .int .i64 m1, .int .i64 m2, .int .i64 m3])) := hr6; clear hb6 hr6 hg6)
                  | (at_builtin; refine wpList_append_row appMt _ rfl _ _ rfl wq.heap.size (.slice a6 (j + 1) c6) (j + 1) (mtC (out.take j) ++ [.string mn, .int .i64 m1, .int .i64 m2, .int .i64 m3]) rfl HR6.out _ (out.length - j) (mtC (out.drop j)) rfl (HD0.out _ HB6.out) (mtC_one _) (by omega) hs6 ?_; intro a7 c7 w7 hr7 hg7 _; have hb7 : Below wq.heap.size wq w7 := HB6.out.grown hg7 hs6 (fun i hi => (World.ownsRow.lt HR6.out i hi).1); have HB7 : Hid (Below wq.heap.size wq w7) := hb7; have HR7 : Hid (w7.ownsRow wq.heap.size 31 4 (.slice a7 (j + 1 + (out.length - j)) c7) (j + 1 + (out.length - j)) (mtC (out.take j) ++ [.string mn, .int .i64 m1, .int .i64 m2, .int .i64 m3] ++ mtC (out.drop j))) := hr7; clear hb7 hr7 hg7))
                all_goals
                  go_roundg (L.length - (k + 1))
                  case rel =>
                    have hnl : (out.take j ++ [(⟨mn, m1, m2, m3⟩ : Mt)] ++ out.drop j).length = j + 1 + (out.length - j) := by simp; omega
                    refine ⟨k + 1, out.take j ++ [(⟨mn, m1, m2, m3⟩ : Mt)] ++ out.drop j, a7, c7, by omega, rfl, by go_num, by rw [hnl], HPUT, ?_, HBW.out.trans (HB7.out.mono hswr)⟩
                    show MtAt _ _ _
                    unfold MtAt
                    rw [hnl, mtC_append, mtC_append]
                    exact RowAt.of_row HR7.out
                  case measure => omega
          · have hje : j = out.length := by omega
            have hjl2 : ¬ (j : Int) < (out.length : Int) := by omega
            have HPUT : Hid (LotOf m3 b s (L.take (k + 1)) (out.take j ++ [⟨mn, m1, m2, m3⟩] ++ out.drop j)) := by
              show LotOf _ _ _ _ _
              rw [HTK.out]
              exact hlot.out.put hst j hj hall.out (fun h9 => by omega)
            have HJE : Hid (j = out.length) := hje
            clear hje hall
            go_upto_region 8 with fail
            go_quiet (first | (go_at_call 20; exact Calls.quiet_of_same (HIN.out _ _)))
            generalize hV9 : wr.drewN nq = wq
            have hb9 : Below wr.heap.size wr wq := by rw [← hV9]; exact hbn nq
            have hs9 := hb9.size
            have HBQ : Hid (Below V.heap.size V wq) := hbv.out.trans (hb9.mono hsv)
            have hsq := HBQ.out.size
            clear hV9 hb9 hbn hbv g0 g1 g2 g3
            have hswr : w.heap.size ≤ wq.heap.size := Nat.le_trans HVB.out.size hsq
            have HBW : Hid (Below w.heap.size w wq) := HVB.out.trans (HBQ.out.mono HVB.out.size)
            have HMC : Hid (∀ X, Below wq.heap.size wq X → X.cell? ⟨M, 0, none⟩ = some (.string mn) ∧ X.cell? ⟨M, 1, none⟩ = some (.int .i64 m1) ∧ X.cell? ⟨M, 2, none⟩ = some (.int .i64 m2) ∧ X.cell? ⟨M, 3, none⟩ = some (.int .i64 m3)) := fun X hX => HMW.out X (HBQ.out.trans (hX.mono hsq))
            have HXA : Hid (∀ X, Below wq.heap.size wq X → MtAt X (.slice a out.length c) out) := fun X hX => RowAt.below HVA.out (HBQ.out.trans (hX.mono hsq))
            have HT0 : Hid (∀ X, Below wq.heap.size wq X → RowAt X (.slice a j c) 4 j (mtC (out.take j))) := fun X hX => by
              have h9 := MtAt.take (HXA.out X hX) j hj
              unfold MtAt at h9
              rw [List.length_take, Nat.min_eq_left hj] at h9
              exact h9
            have hcj : (j : Int) ≤ (c : Int) := by omega
            have hzero : out.length - j = 0 := by omega
            clear HXA
            cases a with
            | none =>
              go_wp2_with (first
                | (at_builtin; refine wpList_append_row appMt _ rfl _ _ rfl wq.heap.size (.slice (some ⟨wq.heap.size, 0, none⟩) 0 0) 0 [] rfl (row_empty wq _ _ (Nat.le_refl _)) _ j (mtC (out.take j)) rfl (HT0.out _ ((Below.refl _ _).alloc (Nat.le_refl _) _)) (mtC_one _) (by omega) (by simp) ?_; intro a5 c5 w5 hr5 hg5 _; rw [Nat.zero_add, List.nil_append] at hr5; rw [Nat.zero_add]; have hb5 : Below wq.heap.size wq w5 := ((Below.refl _ wq).alloc (Nat.le_refl _) _).grown hg5 (by simp) (fun i hi => by simp [Value.ownBlock] at hi; omega); have hs5 := hb5.size; have HB5 : Hid (Below wq.heap.size wq w5) := hb5; have HR5 : Hid (w5.ownsRow wq.heap.size 31 4 (.slice a5 j c5) j (mtC (out.take j))) := hr5; obtain ⟨t0, t1, t2, t3⟩ := HMC.out w5 hb5; clear hb5 hr5 hg5)
                | (at_builtin; refine wpList_append_row appMt _ rfl _ _ rfl wq.heap.size (.slice a5 j c5) j (mtC (out.take j)) rfl (World.ownsRow.alloc HR5.out _) _ 1 [.string mn, .int .i64 m1, .int .i64 m2, .int .i64 m3] rfl (RowAt.of_block (cs := #[.string mn, .int .i64 m1, .int .i64 m2, .int .i64 m3]) (heap_alloc_new w5 _) rfl (by decide)) (by simp [Value.oneCell']) (by omega) (by simp; omega) ?_; intro a6 c6 w6 hr6 hg6 _; have hb6 : Below wq.heap.size wq w6 := (HB5.out.alloc hs5 _).grown hg6 (by simp; omega) (fun i hi => (World.ownsRow.lt HR5.out i hi).1); have hs6 := hb6.size; have HB6 : Hid (Below wq.heap.size wq w6) := hb6; have HR6 : Hid (w6.ownsRow wq.heap.size 31 4 (.slice a6 (j + 1) c6) (j + 1) (mtC (out.take j) ++ [.string mn, .int .i64 m1, .int .i64 m2, .int .i64 m3])) := hr6; clear hb6 hr6 hg6)
                | (at_builtin; refine wpList_append_row appMt _ rfl _ _ rfl wq.heap.size (.slice a6 (j + 1) c6) (j + 1) (mtC (out.take j) ++ [.string mn, .int .i64 m1, .int .i64 m2, .int .i64 m3]) rfl HR6.out _ 0 [] rfl (RowAt.none4 _ _ (by omega)) (by simp) (by omega) hs6 ?_; intro a7 c7 w7 hr7 hg7 _; have hb7 : Below wq.heap.size wq w7 := HB6.out.grown hg7 hs6 (fun i hi => (World.ownsRow.lt HR6.out i hi).1); have HB7 : Hid (Below wq.heap.size wq w7) := hb7; have HR7 : Hid (w7.ownsRow wq.heap.size 31 4 (.slice a7 (j + 1) c7) (j + 1) (mtC (out.take j) ++ [.string mn, .int .i64 m1, .int .i64 m2, .int .i64 m3])) := (by have hr8 := hr7; rw [Nat.add_zero, List.append_nil] at hr8; exact hr8); clear hb7 hr7 hg7))
              all_goals
                go_roundg (L.length - (k + 1))
                case rel =>
                  have hdr : out.drop j = [] := List.drop_of_length_le (by have := HJE.out; omega)
                  have hnl : (out.take j ++ [(⟨mn, m1, m2, m3⟩ : Mt)] ++ out.drop j).length = j + 1 := by simp; have := HJE.out; omega
                  refine ⟨k + 1, out.take j ++ [(⟨mn, m1, m2, m3⟩ : Mt)] ++ out.drop j, a7, c7, by omega, rfl, by go_num, by rw [hnl], HPUT, ?_, HBW.out.trans (HB7.out.mono hswr)⟩
                  show MtAt _ _ _
                  unfold MtAt
                  rw [hnl, hdr, List.append_nil, mtC_append]
                  exact RowAt.of_row HR7.out
                case measure => omega
            | some ad =>
              go_wp2_with (first
                | (at_builtin; refine wpList_append_row appMt _ rfl _ _ rfl wq.heap.size (.slice (some ⟨wq.heap.size, 0, none⟩) 0 0) 0 [] rfl (row_empty wq _ _ (Nat.le_refl _)) _ j (mtC (out.take j)) rfl (HT0.out _ ((Below.refl _ _).alloc (Nat.le_refl _) _)) (mtC_one _) (by omega) (by simp) ?_; intro a5 c5 w5 hr5 hg5 _; rw [Nat.zero_add, List.nil_append] at hr5; rw [Nat.zero_add]; have hb5 : Below wq.heap.size wq w5 := ((Below.refl _ wq).alloc (Nat.le_refl _) _).grown hg5 (by simp) (fun i hi => by simp [Value.ownBlock] at hi; omega); have hs5 := hb5.size; have HB5 : Hid (Below wq.heap.size wq w5) := hb5; have HR5 : Hid (w5.ownsRow wq.heap.size 31 4 (.slice a5 j c5) j (mtC (out.take j))) := hr5; obtain ⟨t0, t1, t2, t3⟩ := HMC.out w5 hb5; clear hb5 hr5 hg5)
                | (at_builtin; refine wpList_append_row appMt _ rfl _ _ rfl wq.heap.size (.slice a5 j c5) j (mtC (out.take j)) rfl (World.ownsRow.alloc HR5.out _) _ 1 [.string mn, .int .i64 m1, .int .i64 m2, .int .i64 m3] rfl (RowAt.of_block (cs := #[.string mn, .int .i64 m1, .int .i64 m2, .int .i64 m3]) (heap_alloc_new w5 _) rfl (by decide)) (by simp [Value.oneCell']) (by omega) (by simp; omega) ?_; intro a6 c6 w6 hr6 hg6 _; have hb6 : Below wq.heap.size wq w6 := (HB5.out.alloc hs5 _).grown hg6 (by simp; omega) (fun i hi => (World.ownsRow.lt HR5.out i hi).1); have hs6 := hb6.size; have HB6 : Hid (Below wq.heap.size wq w6) := hb6; have HR6 : Hid (w6.ownsRow wq.heap.size 31 4 (.slice a6 (j + 1) c6) (j + 1) (mtC (out.take j) ++ [.string mn, .int .i64 m1, .int .i64 m2, .int .i64 m3])) := hr6; clear hb6 hr6 hg6)
                | (at_builtin; refine wpList_append_row appMt _ rfl _ _ rfl wq.heap.size (.slice a6 (j + 1) c6) (j + 1) (mtC (out.take j) ++ [.string mn, .int .i64 m1, .int .i64 m2, .int .i64 m3]) rfl HR6.out _ 0 [] rfl (RowAt.none4 _ _ (by omega)) (by simp) (by omega) hs6 ?_; intro a7 c7 w7 hr7 hg7 _; have hb7 : Below wq.heap.size wq w7 := HB6.out.grown hg7 hs6 (fun i hi => (World.ownsRow.lt HR6.out i hi).1); have HB7 : Hid (Below wq.heap.size wq w7) := hb7; have HR7 : Hid (w7.ownsRow wq.heap.size 31 4 (.slice a7 (j + 1) c7) (j + 1) (mtC (out.take j) ++ [.string mn, .int .i64 m1, .int .i64 m2, .int .i64 m3])) := (by have hr8 := hr7; rw [Nat.add_zero, List.append_nil] at hr8; exact hr8); clear hb7 hr7 hg7))
              all_goals
                go_roundg (L.length - (k + 1))
                case rel =>
                  have hdr : out.drop j = [] := List.drop_of_length_le (by have := HJE.out; omega)
                  have hnl : (out.take j ++ [(⟨mn, m1, m2, m3⟩ : Mt)] ++ out.drop j).length = j + 1 := by simp; have := HJE.out; omega
                  refine ⟨k + 1, out.take j ++ [(⟨mn, m1, m2, m3⟩ : Mt)] ++ out.drop j, a7, c7, by omega, rfl, by go_num, by rw [hnl], HPUT, ?_, HBW.out.trans (HB7.out.mono hswr)⟩
                  show MtAt _ _ _
                  unfold MtAt
                  rw [hnl, hdr, List.append_nil, mtC_append]
                  exact RowAt.of_row HR7.out
                case measure => omega
    · have hkl : ¬ (k : Int) < (L.length : Int) := by omega
      have hke : L.take k = L := List.take_of_length_le (by omega)
      rw [hke] at hlot
      go_wp2_with fail
      go_ret
      exact ⟨a, c, out, rfl, hlot.out, hat.out, hbel.out⟩

end Go.Proofs.Ytfkahbgphoonaaa
