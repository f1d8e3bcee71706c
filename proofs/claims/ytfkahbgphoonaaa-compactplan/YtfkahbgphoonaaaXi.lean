/- members: the walk. -/
import Derived.Test.YtfkahbgphoonaaaXh
import Derived.Test.YtfkahbgphoonaaaXe
import Derived.Deep.RegionHeld3
import Derived.Deep.CutRange
import Derived.Deep.LoopGhost
namespace Go.Proofs.Ytfkahbgphoonaaa
open Go.RowKit Go.Shelf Go.Maps Go.Sort

theorem b0_bounds (q span : Int) (hq : -9007199254740992 ≤ q ∧ q ≤ 9007199254740993) (hs : 1 ≤ span ∧ span ≤ 900719925474099300) (B : Int) (hB : B = q - 1 - (q - 1) % span) : q - 1 < B + span ∧ -1800000000000000000 ≤ B ∧ B ≤ 9007199254740992 := by
  have e1 := Int.emod_nonneg (q - 1) (show span ≠ 0 by omega)
  have e2 := Int.emod_lt_of_pos (q - 1) (show 0 < span by omega)
  omega

theorem spb_at (B span f q b : Int) (j : Nat) (hs : 1 ≤ span) (hj : j ≤ 2) (h1 : q - 1 < B + span) (h2 : f ≤ q) (hb : b = B + j * span) : B ≤ b ∧ b ≤ B + span + span ∧ (b ≤ f → j < 2) := by
  subst hb
  obtain rfl | rfl | rfl : j = 0 ∨ j = 1 ∨ j = 2 := by omega
  · simp; omega
  · simp; omega
  · simp; omega
theorem spt_at (B span b : Int) (j : Nat) (hj : j < 2) (hb : b = B + j * span) : [B, B + span].take (j + 1) = [B, B + span].take j ++ [b] := by
  subst hb
  obtain rfl | rfl : j = 0 ∨ j = 1 := by omega
  · simp
  · simp
theorem cond_1 (B span f newest b : Int) (j : Nat) (_hs : 1 ≤ span) (hj : j < 2) (hb : b = B + j * span) (h1 : b ≤ f) (h2 : b + span ≤ newest) (h : 1 ≤ j → B ≤ f ∧ B + span ≤ newest) : B ≤ f ∧ B + span ≤ newest := by
  subst hb
  obtain rfl | rfl : j = 0 ∨ j = 1 := by omega
  · simp at h1 h2; exact ⟨h1, h2⟩
  · exact h (by omega)
theorem cond_2 (B span f newest b : Int) (j : Nat) (hb : b = B + j * span) (h1 : b ≤ f) (h2 : b + span ≤ newest) (hj : j = 1) : B + span ≤ f ∧ B + span + span ≤ newest := by
  subst hb
  subst hj
  simp at h1 h2
  exact ⟨h1, h2⟩

set_option maxRecDepth 100000 in
set_option maxHeartbeats 2000000 in
theorem members_any (v : Value) (l : List Mt) (level newest span : Int) (w : World) (h : MtAt w v l) (hl : l.length ≤ 1000) (hs : 1 ≤ span ∧ span ≤ 900719925474099300) (_hn : -9007199254740992 ≤ newest ∧ newest ≤ 9007199254740992) :
    Calls Try.prog 15 #[v, .int .i64 level, .int .i64 newest, .int .i64 span] w fun e w' => ∃ a c ls, e = .returned (.slice a ls.length c) ∧ ls.Perm (mbsF level newest span l) ∧ SortedM ls ∧ w'.ownsRow w.heap.size 63 5 (.slice a ls.length c) ls.length (mbC ls) ∧ Below w.heap.size w w' := by
  obtain ⟨a1, c1, rfl, -⟩ := id h
  have HL : Hid (MtAt w (.slice a1 l.length c1) l) := h
  clear h
  go_enter Try.func15, Try.ntmps15
  go_wp2
  go_loopg [9, 17] l.length (fun g vo i wr => ∃ (k : Nat) (a : Option Addr) (c : Nat), k ≤ l.length ∧ g = l.length - k ∧ i = .int .i64 k ∧ vo = .slice a (mbsF level newest span (l.take k)).length c ∧ Hid (wr.ownsRow w.heap.size 63 5 (.slice a (mbsF level newest span (l.take k)).length c) (mbsF level newest span (l.take k)).length (mbC (mbsF level newest span (l.take k)))) ∧ Hid (Below w.heap.size w wr))
  case atStart => exact ⟨0, none, 0, Nat.zero_le _, rfl, rfl, by simp [mbsF], by show World.ownsRow _ _ _ _ _ _ _; simpa [mbsF, mbC] using World.ownsRow_nil _ _ _ _, Below.refl _ _⟩
  case round =>
    obtain ⟨k, a, c, hk, hgk, rfl, rfl, hrow, hbel⟩ := hrel
    have hsw := hbel.out.size
    have hbl : (mbsF level newest span (l.take k)).length ≤ 2 * k := by
      have := mbsF_le level newest span (l.take k)
      rw [List.length_take] at this
      omega
    by_cases hlt : k < l.length
    · obtain ⟨b0, o0, e0, hone⟩ := MtAt.one HL.out k hlt
      subst e0
      obtain ⟨g0, g1, g2, g3⟩ := hone wr hbel.out
      have HST : Hid (mbsF level newest span (l.take (k + 1)) = mbsF level newest span (l.take k) ++ oneF level newest span l[k]) := by
        show _ = _
        unfold mbsF
        rw [List.take_succ_eq_append_getElem hlt, List.flatMap_append]
        simp
      generalize l[k] = m at *
      generalize mbsF level newest span (l.take k) = ps at *
      have hkl : (k : Int) < (l.length : Int) := by omega
      clear hone
      obtain ⟨mn, m1, m2, m3⟩ := m
      dsimp only at g0 g1 g2 g3
      by_cases hlv : m3 = level
      · subst hlv
        go_upto_region 6 with fail
        go_cut [11] from 18 to 65 (fun mv wx => mv = .pointer (some ⟨wr.heap.size, 0, none⟩) ∧ wx = (wr.alloc (.cells #[.string mn, .int .i64 (cl m1), .int .i64 (cl m2), .int .i64 m3] 31)).drew)
        case first =>
          go_region_with (go_at_call 16; refine (within_any _ _).mono ?_; rintro e w1 ⟨rfl, e8⟩; have e8 := e8.symm; subst e8)
          all_goals
            go_wp2_with fail
            go_meet
            exact ⟨rfl, rfl⟩
        case rest =>
          obtain ⟨rfl, hwc⟩ := hcut
          have hci1 := cl_in m1
          have hci2 := cl_in m2
          have HON : Hid (oneF m3 newest span ⟨mn, m1, m2, m3⟩ = (spG (b0F span ⟨mn, m1, m2, m3⟩) span newest (min (cl m1) (cl m2))).map fun b => (b, (⟨mn, cl m1, cl m2, m3⟩ : Mt))) := by show _ = _; unfold oneF; rw [if_pos rfl]; rfl
          obtain ⟨B, hB⟩ : ∃ B, B = b0F span ⟨mn, m1, m2, m3⟩ := ⟨_, rfl⟩
          rw [← hB] at HON
          unfold b0F at hB
          dsimp only at hB
          generalize cl m1 = x1 at *
          generalize cl m2 = x2 at *
          obtain ⟨f, hf⟩ : ∃ f, f = min x1 x2 := ⟨_, rfl⟩
          obtain ⟨q, hq⟩ : ∃ q, q = max x1 x2 := ⟨_, rfl⟩
          rw [← hf] at HON
          rw [← hq] at hB
          have hqb : -9007199254740992 ≤ q ∧ q ≤ 9007199254740993 := by omega
          have hfq : f ≤ q ∧ f ≤ 9007199254740992 ∧ -9007199254740993 ≤ f := by omega
          obtain ⟨hB1, hB2, hB3⟩ := b0_bounds q span hqb hs B hB
          have HBE : Hid (∀ W, Calls Try.prog 26 #[.int .i64 (q - 1), .int .i64 span] W fun e w' => e = .returned (.int .i64 B) ∧ w' = W) := fun W => by rw [hB]; exact below_more (q - 1) span W (by omega) (by omega)
          clear hB
          have hbox : wc.heap[wr.heap.size]? = some (.cells #[.string mn, .int .i64 x1, .int .i64 x2, .int .i64 m3] 31) := by rw [hwc]; exact heap_alloc_new wr _
          have d1 : wc.cell? ⟨wr.heap.size, 1, none⟩ = some (.int .i64 x1) := World.news_of_block hbox 1 _ rfl
          have d2 : wc.cell? ⟨wr.heap.size, 2, none⟩ = some (.int .i64 x2) := World.news_of_block hbox 2 _ rfl
          have HBOX : Hid _ := hbox
          have HB1 : Hid (Below w.heap.size w wc) := by rw [hwc]; exact (hbel.out.alloc hsw _).drew
          have HR1 : Hid (wc.ownsRow w.heap.size 63 5 (.slice a ps.length c) ps.length (mbC ps)) := by rw [hwc]; exact World.ownsRow.alloc hrow.out _
          have HBX : Hid ((Value.slice a ps.length c).ownBlock ≠ some wr.heap.size) := fun hb => by
            have := (World.ownsRow.lt hrow.out _ hb).2
            omega
          have hgw : wr.heap.size < wc.heap.size := by rw [hwc]; simp
          clear hwc hbox g0 g1 g2 g3 hrow hbel hci1 hci2
          go_upto_region 7 with fail
          go_cut [12, 13] from 18 to 65 (fun fv qv wx => fv = .int .i64 f ∧ qv = .int .i64 q ∧ wx = wc.drew)
          case first =>
            go_region_held3 (fun X => X.cell? ⟨wr.heap.size, 1, none⟩ = some (.int .i64 x1) ∧ X.cell? ⟨wr.heap.size, 2, none⟩ = some (.int .i64 x2))
              (first | exact ⟨d1, d2⟩)
              (fail)
            all_goals
              rw [← hf, ← hq]
              go_wp2_with fail
              go_meet
              exact ⟨rfl, rfl, rfl⟩
          case rest =>
            obtain ⟨rfl, rfl, rfl⟩ := hcut
            clear hf hq d1 d2
            have hwq : IntKind.i64.wrap (q - 1) = q - 1 := by rw [IntKind.wrap_i64]; omega
            go_wp2_with (go_at_call 26; refine (HBE.out _).mono ?_; clear HBE; rintro e w1 ⟨rfl, e8⟩; have e8 := e8.symm; subst e8)
            clear hwq
            generalize wr.heap.size = G at *
            go_loopg [9, 14] 2 (fun g vo vb wi => ∃ (j : Nat) (b : Int) (a' : Option Addr) (c' : Nat), j ≤ 2 ∧ g = 2 - j ∧ vb = .int .i64 b ∧ vo = .slice a' (ps.length + j) c' ∧ Hid (b = B + j * span) ∧ Hid (wi.ownsRow w.heap.size 63 5 (.slice a' (ps.length + j) c') (ps.length + j) (mbC (ps ++ ([B, B + span].take j).map fun b => (b, (⟨mn, x1, x2, m3⟩ : Mt))))) ∧ Hid (wi.heap[G]? = some (.cells #[.string mn, .int .i64 x1, .int .i64 x2, .int .i64 m3] 31)) ∧ Hid ((Value.slice a' (ps.length + j) c').ownBlock ≠ some G) ∧ Hid (Below w.heap.size w wi) ∧ Hid ((1 ≤ j → B ≤ f ∧ B + span ≤ newest) ∧ (j = 2 → B + span ≤ f ∧ B + span + span ≤ newest)))
            case atStart =>
              refine ⟨0, B, a, c, by omega, rfl, rfl, by simp, by show _ = _; simp, ?_, HBOX.out, by show _ ≠ _; simpa using HBX.out, HB1.out.drew, ⟨fun h => by omega, fun h => by omega⟩⟩
              show World.ownsRow _ _ _ _ _ _ _
              have h9 : wc.drew.ownsRow w.heap.size 63 5 (.slice a ps.length c) ps.length (mbC ps) := HR1.out
              simpa using h9
            case round =>
              clear HBOX HB1 HR1 HBX
              obtain ⟨j, b, a', c', hj, hgj, rfl, rfl, hbe, hrw, hbx, hnb, hbw, hcd⟩ := hrel
              have hsz := hbw.out.size
              have t0 : wr.cell? ⟨G, 0, none⟩ = some (.string mn) := World.news_of_block hbx.out 0 _ rfl
              have t1 : wr.cell? ⟨G, 1, none⟩ = some (.int .i64 x1) := World.news_of_block hbx.out 1 _ rfl
              have t2 : wr.cell? ⟨G, 2, none⟩ = some (.int .i64 x2) := World.news_of_block hbx.out 2 _ rfl
              have t3 : wr.cell? ⟨G, 3, none⟩ = some (.int .i64 m3) := World.news_of_block hbx.out 3 _ rfl
              have hwg : G < wr.heap.size := (Array.getElem?_eq_some_iff.1 hbx.out).1
              obtain ⟨hb1, hb2, hb3⟩ := spb_at B span f q b j hs.1 hj hB1 hfq.1 hbe.out
              by_cases h1 : b ≤ f
              · have hw1 : IntKind.i64.wrap (b + span) = b + span := by rw [IntKind.wrap_i64]; omega
                by_cases h2 : b + span ≤ newest
                · have hj2 := hb3 h1
                  have HTK : Hid ([B, B + span].take (j + 1) = [B, B + span].take j ++ [b]) := spt_at B span b j hj2 hbe.out
                  have HAL : Hid (∀ o, (wr.alloc o).ownsRow w.heap.size 63 5 (.slice a' (ps.length + j) c') (ps.length + j) (mbC (ps ++ ([B, B + span].take j).map fun b => (b, (⟨mn, x1, x2, m3⟩ : Mt))))) := fun o => World.ownsRow.alloc hrw.out o
                  go_wp2_with (at_builtin; refine wpList_append_row appMb _ rfl _ _ rfl w.heap.size _ (ps.length + j) _ rfl (HAL.out _) _ 1 [.int .i64 b, .string mn, .int .i64 x1, .int .i64 x2, .int .i64 m3] rfl (RowAt.of_block (cs := #[.int .i64 b, .string mn, .int .i64 x1, .int .i64 x2, .int .i64 m3]) (heap_alloc_new wr _) rfl (by decide)) (by simp [Value.oneCell']) (by omega) (by simp; omega) ?_; intro a5 c5 w5 hr5 hg5 hw5)
                  go_roundg (2 - (j + 1))
                  case rel =>
                    have hbo : (Value.slice a' (ps.length + j) c').ownBlock ≠ some G := hnb.out
                    have hs5 := hg5.size
                    simp at hs5
                    refine ⟨j + 1, b + span, a5, c5, by omega, rfl, by go_num, rfl, ?_, ?_, ?_, ?_, ?_, ?_⟩
                    · show _ = _
                      rw [hbe.out]; push_cast; rw [Int.add_mul]; omega
                    · show World.ownsRow _ _ _ _ _ _ _
                      rw [HTK.out, List.map_append, ← List.append_assoc, mbC_append]
                      exact hr5
                    · show _ = _
                      rw [hg5.block G (by simp; omega) (fun e => hbo e.symm), Below.heap_alloc wr _ _ hwg]
                      exact hbx.out
                    · show (Value.slice a5 (ps.length + j + 1) c5).ownBlock ≠ _
                      rcases hw5 with e | e
                      · rw [e]; exact hbo
                      · rw [e]; intro h; simp at h; omega
                    · exact (hbw.out.alloc hsz _).grown hg5 (by simp; omega) (fun i hi => (World.ownsRow.lt hrw.out i hi).1)
                    · refine ⟨fun _ => ?_, fun h => ?_⟩
                      · exact cond_1 B span f newest b j hs.1 hj2 hbe.out h1 h2 hcd.out.1
                      · exact cond_2 B span f newest b j hbe.out h1 h2 (by omega)
                  case measure => omega
                · have HX : Hid ([B, B + span].take j = spG B span newest f) := spG_at B span newest f hs.1 (by omega) j hj hcd.out.1 hcd.out.2 (fun h => h2 (by rw [hbe.out]; exact h.2))
                  go_wp2_with fail
                  go_roundg (l.length - (k + 1))
                  case rel =>
                    have h9 : mbsF m3 newest span (l.take (k + 1)) = ps ++ ([B, B + span].take j).map fun b => (b, (⟨mn, x1, x2, m3⟩ : Mt)) := by rw [HST.out, HON.out, HX.out]
                    have h8 : (mbsF m3 newest span (l.take (k + 1))).length = ps.length + j := by rw [h9]; simp; omega
                    refine ⟨k + 1, a', c', by omega, rfl, by go_num, by rw [h8], ?_, hbw.out⟩
                    show World.ownsRow _ _ _ _ _ _ _
                    rw [h8, h9]
                    exact hrw.out
                  case measure => omega
              · have HX : Hid ([B, B + span].take j = spG B span newest f) := spG_at B span newest f hs.1 (by omega) j hj hcd.out.1 hcd.out.2 (fun h => h1 (by rw [hbe.out]; exact h.1))
                go_wp2_with fail
                go_roundg (l.length - (k + 1))
                case rel =>
                  have h9 : mbsF m3 newest span (l.take (k + 1)) = ps ++ ([B, B + span].take j).map fun b => (b, (⟨mn, x1, x2, m3⟩ : Mt)) := by rw [HST.out, HON.out, HX.out]
                  have h8 : (mbsF m3 newest span (l.take (k + 1))).length = ps.length + j := by rw [h9]; simp; omega
                  refine ⟨k + 1, a', c', by omega, rfl, by go_num, by rw [h8], ?_, hbw.out⟩
                  show World.ownsRow _ _ _ _ _ _ _
                  rw [h8, h9]
                  exact hrw.out
                case measure => omega
      · have HE : Hid (oneF level newest span ⟨mn, m1, m2, m3⟩ = []) := by show _ = _; unfold oneF; rw [if_neg hlv]
        go_wp2_with fail
        go_roundg (l.length - (k + 1))
        case rel =>
          refine ⟨k + 1, a, c, by omega, rfl, by go_num, ?_, ?_, hbel.out.alloc hsw _⟩
          · rw [HST.out, HE.out, List.append_nil]
          · show World.ownsRow _ _ _ _ _ _ _
            rw [HST.out, HE.out, List.append_nil]
            exact World.ownsRow.alloc hrow.out _
        case measure => omega
    · have hkl : ¬ (k : Int) < (l.length : Int) := by omega
      have hke : l.take k = l := List.take_of_length_le (by omega)
      rw [hke] at hrow hbl ⊢
      obtain ⟨ps, hps⟩ : ∃ ps, ps = mbsF level newest span l := ⟨_, rfl⟩
      have HPS : Hid (ps = mbsF level newest span l) := hps
      rw [← hps] at hrow hbl ⊢
      clear hps
      have hso := sortM_every (.slice a ps.length c) ps wr w.heap.size hrow.out (by omega)
      go_wp2_with (go_at_call 27; refine hso.mono ?_; clear hso; rintro e w2 ⟨rfl, ls, hp2, hs2, hr2, hb2⟩)
      go_ret
      have hll : ls.length = ps.length := hp2.length_eq
      exact ⟨a, c, ls, by rw [hll]; rfl, HPS.out ▸ hp2, hs2, by rw [hll] at hr2 ⊢; exact hr2, hbel.out.trans hb2⟩

end Go.Proofs.Ytfkahbgphoonaaa
