/- CompactSettles: the walk. -/
import Derived.Test.YtfkahbgphoonaaaXj
import Derived.Test.YtfkahbgphoonaaaXk
import Derived.Test.YtfkahbgphoonaaaYu
namespace Go.Proofs.Ytfkahbgphoonaaa
open Go.RowKit Go.Shelf Go.Maps Go.Sort

theorem appMt : App Try.prog 22 31 4 := App.of (z := .agg #[.string ByteArray.empty, .int .i64 0, .int .i64 0, .int .i64 0]) (bytes := 40) Try.underlying22 (by kernel_rfl) rfl (by decide) (by decide)
theorem mbsF_nm {level newest span : Int} {L : List Mt} {x : Mb} (h : x ∈ mbsF level newest span L) : ∃ m ∈ L, m.nm = x.2.nm := by
  unfold mbsF at h
  obtain ⟨m, hm, hx⟩ := List.mem_flatMap.1 h
  refine ⟨m, hm, ?_⟩
  unfold oneF at hx
  split at hx
  · obtain ⟨b, -, rfl⟩ := List.mem_map.1 hx
    rfl
  · simp at hx
theorem planOf_mem {L : List Mt} {nw wd : Int} {ns : List ByteArray} (h : PlanOf L nw wd ns) : ∀ n ∈ ns, ∃ m ∈ L, m.nm = n := by
  intro n hn
  rcases h with ⟨ls, hp, -, -, rfl⟩ | ⟨-, ls, -, hp, -, rfl⟩
  · obtain ⟨x, hx, rfl⟩ := List.mem_map.1 hn
    exact mbsF_nm (hp.mem_iff.1 ((lotF_sub ls).subset hx))
  · obtain ⟨x, hx, rfl⟩ := List.mem_map.1 hn
    exact mbsF_nm (hp.mem_iff.1 ((lotF_sub ls).subset hx))
theorem joinV_two (s : Nat × Mt) (h : 2 ≤ s.1) : joinV s = .tuple #[.agg #[.string ByteArray.empty, .int .i64 s.2.lo, .int .i64 s.2.hi, .int .i64 (wrap64 (s.2.lv + 1))], .bool true] := by
  unfold joinV
  rw [if_neg (by omega), decide_eq_true h]

theorem conv2 (X : World) (b : Nat) (x y : Int) (h : X.heap[b]? = some (.cells #[.int .u8 x, .int .u8 y] 5)) : ∃ B : ByteArray, B.size = 2 ∧ (convert 36 9 (.slice (some ⟨b, 0, none⟩) 2 2)).run Try.prog X = .ok (.string B) X := by
  have hl : (loadCells ⟨b, 0, none⟩ 2).run Try.prog X = .ok (([x, y] : List Int).map (Value.int .u8)).toArray X :=
    run_loadCells_list (P := Try.prog) X ⟨b, 0, none⟩ [.int .u8 x, .int .u8 y] (fun j u hj => World.news_of_block h j u (by simpa using hj))
  refine ⟨_, ?_, by rw [run_convert_bytes_string X 36 9 5 _ 2 2 Try.underlying36 Try.underlying5 Try.underlying9, run_bytesToString X _ 2 2 _ hl]⟩
  rfl

theorem heap_alloc3_new (X : World) (a b c : Obj) : (((X.alloc a).alloc b).alloc c).heap[X.heap.size + 1 + 1]? = some c := by
  have := heap_alloc_new ((X.alloc a).alloc b) c
  simpa using this
theorem mtC_snoc (l : List Mt) (m : Mt) : mtC (l ++ [m]) = mtC l ++ mtV m := by simp [mtC]

set_option maxRecDepth 100000 in
set_option maxHeartbeats 4000000 in
theorem settles_any (v : Value) (l : List Mt) (newest width : Int) (w : World) (h : MtAt w v l) :
    Calls Try.prog 4 #[v, .int .i64 newest, .int .i64 width] w fun e w' => e = .returned (.bool true) ∧ Below w.heap.size w w' := by
  have HFW : Hid (Calls Try.prog 5 #[v] w fun e w' => (∃ u, e = .returned u ∧ MtAt w u (l.take 30)) ∧ w' = w) := few_any v l w h
  clear h
  go_enter Try.func4, Try.ntmps4
  go_wp2_with (go_at_call 5; refine HFW.out.mono ?_; clear HFW; rintro e w1 ⟨⟨u, rfl, hu⟩, e8⟩; have e8 := e8.symm; subst e8)
  obtain ⟨l0, hl0⟩ : ∃ l0, l0 = l.take 30 := ⟨_, rfl⟩
  have hl1 : l0.length ≤ 30 := by rw [hl0, List.length_take]; omega
  rw [← hl0] at hu
  clear hl0
  obtain ⟨a1, c1, rfl, -⟩ := id hu
  have HL : Hid (MtAt w (.slice a1 l0.length c1) l0) := hu
  clear hu
  go_loopg [7, 8] l0.length (fun g vo i wr => ∃ (k : Nat) (ms : List Mt) (a : Option Addr) (c : Nat), k ≤ l0.length ∧ g = l0.length - k ∧ i = .int .i64 k ∧ vo = .slice a k c ∧ Hid (ms.length = k ∧ ∀ m ∈ ms, m.nm.size ≤ 3) ∧ Hid (wr.ownsRow w.heap.size 31 4 (.slice a k c) k (mtC ms)) ∧ Hid (Below w.heap.size w wr))
  case atStart => exact ⟨0, [], none, 0, Nat.zero_le _, rfl, rfl, rfl, ⟨rfl, fun m hm => by simp at hm⟩, World.ownsRow_nil _ _ _ _, Below.refl _ _⟩
  case round =>
    obtain ⟨k, ms, a, c, hk, hgk, rfl, rfl, hms, hrow, hbel⟩ := hrel
    have hsw := hbel.out.size
    by_cases hlt : k < l0.length
    · obtain ⟨b0, o0, e0, hone⟩ := MtAt.one HL.out k hlt
      subst e0
      obtain ⟨g0, g1, g2, g3⟩ := hone wr hbel.out
      generalize l0[k] = m at *
      obtain ⟨mn, m1, m2, m3⟩ := m
      dsimp only at g0 g1 g2 g3
      have hkl : (k : Int) < (l0.length : Int) := by omega
      clear hone
      obtain ⟨B, hBs, hcv⟩ := conv2 ((wr.alloc (.cells #[.string mn, .int .i64 m1, .int .i64 m2, .int .i64 m3] 31)).alloc (.cells #[.int .u8 (97 + (k : Int) % 26), .int .u8 (97 + (k : Int) / 26)] 5)) (wr.heap.size + 1) _ _ (heap_alloc2_new wr _ _)
      have HAL : Hid (∀ o1 o2 o3, (((wr.alloc o1).alloc o2).alloc o3).ownsRow w.heap.size 31 4 (.slice a k c) k (mtC ms)) := fun o1 o2 o3 => World.ownsRow.alloc (World.ownsRow.alloc (World.ownsRow.alloc hrow.out o1) o2) o3
      go_wp2_with (at_builtin; refine wpList_append_row appMt _ rfl _ _ rfl w.heap.size _ k (mtC ms) rfl (HAL.out _ _ _) _ 1 [.string B, .int .i64 m1, .int .i64 m2, .int .i64 m3] rfl (RowAt.of_block (cs := #[.string B, .int .i64 m1, .int .i64 m2, .int .i64 m3]) (heap_alloc3_new wr _ _ _) rfl (by decide)) (by simp [Value.oneCell']) (by omega) (by simp; omega) ?_; intro a5 c5 w5 hr5 hg5 hw5)
      go_roundg (l0.length - (k + 1))
      case rel =>
        refine ⟨k + 1, ms ++ [⟨B, m1, m2, m3⟩], a5, c5, by omega, rfl, by go_num, rfl, ⟨by rw [List.length_append, hms.out.1]; rfl, fun m hm => ?_⟩, ?_, ?_⟩
        · rcases List.mem_append.1 hm with hm | hm
          · exact hms.out.2 m hm
          · rw [List.mem_singleton] at hm
            subst hm
            show B.size ≤ 3
            omega
        · show World.ownsRow _ _ _ _ _ _ _
          rw [mtC_snoc]
          exact hr5
        · exact (((hbel.out.alloc hsw _).alloc (by simp; omega) _).alloc (by simp; omega) _).grown hg5 (by simp; omega) (fun i hi => (World.ownsRow.lt hrow.out i hi).1)
      case measure => omega
    · obtain rfl : k = l0.length := by omega
      clear hlt
      go_wp2_with fail
      go_loopg [7, 10] 31 (fun g vo i wx => ∃ (r : Nat) (L : List Mt) (a : Option Addr) (c : Nat), L.length + r ≤ 30 ∧ g = 31 - r ∧ i = .int .i64 r ∧ vo = .slice a L.length c ∧ Hid (∀ m ∈ L, m.nm.size ≤ 3) ∧ Hid (wx.ownsRow w.heap.size 31 4 (.slice a L.length c) L.length (mtC L)) ∧ Hid (Below w.heap.size w wx))
      case atStart =>
        refine ⟨0, ms, a, c, by rw [hms.out.1]; omega, rfl, rfl, by rw [hms.out.1], hms.out.2, ?_, hbel.out⟩
        show World.ownsRow _ _ _ _ _ _ _
        rw [hms.out.1]
        exact hrow.out
      case round =>
        clear hms hrow hbel hsw hgk
        obtain ⟨r, L, a, c, hlr, hgr, rfl, rfl, hsz, hrow, hbel⟩ := hrel
        have hsw := hbel.out.size
        have HPL : Hid (Calls Try.prog 6 #[.slice a L.length c, .int .i64 newest, .int .i64 width] wr fun e w' => ∃ a c ns, e = .returned (.slice a ns.length c) ∧ PlanOf L (cl newest) (wdF width) ns ∧ ns.length ≤ 2000 ∧ w'.ownsRow wr.heap.size 9 1 (.slice a ns.length c) ns.length (stC ns) ∧ Below wr.heap.size wr w') := plan_any (.slice a L.length c) L newest width wr (RowAt.of_row hrow.out) (by omega)
        go_upto_if 53 with (go_at_call 6; refine HPL.out.mono ?_; clear HPL; rintro e w2 ⟨a2, c2, ns, rfl, hpo, hnl, hr2, hb2⟩; have HP2 : Hid (PlanOf L (cl newest) (wdF width) ns ∧ w2.ownsRow wr.heap.size 9 1 (.slice a2 ns.length c2) ns.length (stC ns) ∧ Below wr.heap.size wr w2) := ⟨hpo, hr2, hb2⟩; clear hpo hr2 hb2)
        obtain ⟨hpo, hr2, hb2⟩ := HP2.out
        have hct := planOf_count hpo (by unfold wdF; omega)
        have hmem := planOf_mem hpo
        have hrow2 : w2.ownsRow w.heap.size 31 4 (.slice a L.length c) L.length (mtC L) := row_below hrow.out hb2
        have hbel2 : Below w.heap.size w w2 := hbel.out.trans (hb2.mono hsw)
        have hsw2 := hbel2.size
        by_cases hn0 : ns = []
        · subst hn0
          clear HP2 hpo hr2 hb2 hct hmem
          have HB2 : Hid (Below w.heap.size w w2) := hbel2
          clear hbel2 hrow2 hsw2
          have HWK : Hid (Calls Try.prog 13 #[] w2 fun e w' => e = .returned (.bool true) ∧ Below w2.heap.size w2 w') := wakes_any w2
          go_wp2_with (go_at_call 13; refine HWK.out.mono ?_; clear HWK; rintro e w3 ⟨rfl, hb3⟩)
          go_ret
          exact ⟨rfl, HB2.out.trans (hb3.mono HB2.out.size)⟩
        · have hn0' : ((ns.length : Int) == 0) = false := by
            have : ns.length ≠ 0 := fun h => hn0 (List.eq_nil_of_length_eq_zero h)
            simp; omega
          have hct2 : 2 ≤ L.countP (inF ns) := hct.resolve_left hn0
          have hj1 := joinF_1 ns L
          have HJN : Hid (Calls Try.prog 11 #[.slice a L.length c, .slice a2 ns.length c2] w2 fun e w' => e = .returned (.tuple #[.agg #[.string ByteArray.empty, .int .i64 (joinF ns L).2.lo, .int .i64 (joinF ns L).2.hi, .int .i64 (wrap64 ((joinF ns L).2.lv + 1))], .bool true]) ∧ Below w2.heap.size w2 w') := by
            have h9 := joined_any (.slice a L.length c) (.slice a2 ns.length c2) L ns w2 (RowAt.of_row hrow2) (RowAt.of_row hr2) (by omega) (by omega) (fun n hn => by obtain ⟨m, hm, rfl⟩ := hmem n hn; have := hsz.out m hm; unfold maxLen; omega) (fun m hm => by have := hsz.out m hm; unfold maxLen; omega)
            rw [joinV_two _ (by rw [hj1]; exact hct2)] at h9
            exact h9
          have HWD : Hid (∀ m ∈ L, inF ns m = true → (joinF ns L).2.lo ≤ m.lo ∧ m.hi ≤ (joinF ns L).2.hi) := joinF_wide ns L
          have HRC : Hid ((L.filter fun m => !inF ns m).length + L.countP (inF ns) = L.length) := rest_count ns L
          generalize (joinF ns L).2.lo = jl at *
          generalize (joinF ns L).2.hi = jh at *
          generalize wrap64 ((joinF ns L).2.lv + 1) = jv at *
          have HW2 : Hid (w2.ownsRow w.heap.size 31 4 (.slice a L.length c) L.length (mtC L) ∧ w2.ownsRow wr.heap.size 9 1 (.slice a2 ns.length c2) ns.length (stC ns) ∧ Below w.heap.size w w2 ∧ 2 ≤ L.countP (inF ns)) := ⟨hrow2, hr2, hbel2, hct2⟩
          clear HP2 hpo hr2 hb2 hct hmem hrow2 hbel2 hct2 hj1 hrow hbel
          have hr40 : (r : Int) ≤ 40 := by omega
          go_upto_region 17 with (go_at_call 11; refine HJN.out.mono ?_; clear HJN; rintro e w3 ⟨rfl, hb3⟩)
          have hb3s := hb3.size
          have HB3 : Hid (Below w2.heap.size w2 w3) := hb3
          clear hb3
          obtain ⟨B, hBs, hcv⟩ := conv2 ((w3.alloc (.cells #[.string ByteArray.empty, .int .i64 jl, .int .i64 jh, .int .i64 jv] 31)).alloc (.cells #[.int .u8 (97 + (r : Int) % 26), .int .u8 (97 + (r : Int) / 26)] 5)) (w3.heap.size + 1) _ _ (heap_alloc2_new w3 _ _)
          go_wp2_with fail
          obtain ⟨NM, hNM⟩ : ∃ NM : ByteArray, NM = ⟨#[106]⟩ ++ B := ⟨_, rfl⟩
          have hNs : NM.size ≤ 3 := by
            rw [hNM, ByteArray.size_append, hBs]
            decide
          rw [← hNM]
          obtain ⟨W3, hW3⟩ : ∃ W3, W3 = (w3.alloc (.cells #[.string NM, .int .i64 jl, .int .i64 jh, .int .i64 jv] 31)).alloc (.cells #[.int .u8 (97 + (r : Int) % 26), .int .u8 (97 + (r : Int) / 26)] 5) := ⟨_, rfl⟩
          rw [← hW3]
          obtain ⟨hrow2, hr2, hbel2, hct2⟩ := HW2.out
          have hb23 : Below w2.heap.size w2 W3 := by rw [hW3]; exact (HB3.out.alloc hb3s _).alloc (by simp; omega) _
          have HJB : Hid (W3.heap[w3.heap.size]? = some (.cells #[.string NM, .int .i64 jl, .int .i64 jh, .int .i64 jv] 31)) := by rw [hW3]; exact heap_alloc2_old w3 _ _
          have HL3 : Hid (∀ X, Below W3.heap.size W3 X → MtAt X (.slice a L.length c) L) := fun X hX => RowAt.below (RowAt.below (RowAt.of_row hrow2) hb23) hX
          have HN3 : Hid (∀ X, Below W3.heap.size W3 X → StAt X (.slice a2 ns.length c2) ns) := fun X hX => RowAt.below (RowAt.below (RowAt.of_row hr2) hb23) hX
          have HB4 : Hid (Below w.heap.size w W3) := hbel2.trans (hb23.mono hsw2)
          have HCT : Hid (2 ≤ L.countP (inF ns)) := hct2
          have hJ3 : w3.heap.size < W3.heap.size := by rw [hW3]; simp; omega
          have hsw3 : w.heap.size ≤ W3.heap.size := HB4.out.size
          clear hW3 hNM hBs hcv HW2 HB3 hb3s hrow2 hr2 hbel2 hct2 hb23 hsw2 hn0'
          generalize w3.heap.size = J at *
          go_loopg [14, 15] L.length (fun g vo i wx => ∃ (k n : Nat) (a' : Option Addr) (c' : Nat), k ≤ L.length ∧ g = L.length - k ∧ i = .int .i64 k ∧ vo = .slice a' n c' ∧ n ≤ k ∧ Hid (n = ((L.take k).filter fun m => !inF ns m).length) ∧ Hid (wx.ownsRow W3.heap.size 31 4 (.slice a' n c') n (mtC ((L.take k).filter fun m => !inF ns m))) ∧ Hid (Below W3.heap.size W3 wx))
          case atStart => exact ⟨0, 0, none, 0, Nat.zero_le _, rfl, rfl, rfl, Nat.zero_le _, rfl, World.ownsRow_nil _ _ _ _, Below.refl _ _⟩
          case round =>
            obtain ⟨k, n, a', c', hk, hgk, rfl, rfl, hnk, hn, hrow, hbel⟩ := hrel
            have hswx := hbel.out.size
            by_cases hlt : k < L.length
            · obtain ⟨b0, o0, e0, hone⟩ := MtAt.one (HL3.out wr hbel.out) k hlt
              subst e0
              have HST : Hid ((L.take (k + 1)).filter (fun m => !inF ns m) = (L.take k).filter (fun m => !inF ns m) ++ if inF ns L[k] = true then [] else [L[k]]) := by
                show _ = _
                rw [List.take_succ_eq_append_getElem hlt, List.filter_append]
                cases h : inF ns L[k] <;> simp [h]
              have HWM : Hid (inF ns L[k] = true → jl ≤ L[k].lo ∧ L[k].hi ≤ jh) := HWD.out _ (List.getElem_mem hlt)
              have HONE : Hid (∀ X, Below wr.heap.size wr X → X.cell? ⟨b0, o0 + k * 4, none⟩ = some (.string L[k].nm) ∧ X.cell? ⟨b0, o0 + k * 4 + 1, none⟩ = some (.int .i64 L[k].lo) ∧ X.cell? ⟨b0, o0 + k * 4 + 2, none⟩ = some (.int .i64 L[k].hi) ∧ X.cell? ⟨b0, o0 + k * 4 + 3, none⟩ = some (.int .i64 L[k].lv)) := hone
              generalize L[k] = m at *
              clear hone
              obtain ⟨mn, m1, m2, m3⟩ := m
              have hkl : (k : Int) < (L.length : Int) := by omega
              generalize wr = V at *
              go_wp2_with fail
              go_loopg [16, 17] ns.length (fun g vi i wx => ∃ (j : Nat), j ≤ ns.length ∧ g = ns.length - j ∧ i = .int .i64 j ∧ vi = .bool ((ns.take j).any fun x => nmq x mn) ∧ Hid (Below V.heap.size V wx))
              case atStart => exact ⟨0, Nat.zero_le _, rfl, rfl, rfl, Below.refl _ _⟩
              case round =>
                obtain ⟨j, hj, hgj, rfl, rfl, hbv⟩ := hrel
                have hbn := fun q => below_drewN (Below.refl wr.heap.size wr) q
                have hsv := hbv.out.size
                have hb3 : Below W3.heap.size W3 wr := hbel.out.trans (hbv.out.mono hswx)
                obtain ⟨g0, g1, g2, g3⟩ := HONE.out wr hbv.out
                by_cases hlj : j < ns.length
                · obtain ⟨b1, o1, e1, hcel⟩ := StAt.one (HN3.out wr hb3) j hlj
                  subst e1
                  have t0 := hcel wr (Below.refl _ _)
                  have HSA : Hid ((ns.take (j + 1)).any (fun x => nmq x mn) = ((ns.take j).any (fun x => nmq x mn) || nmq ns[j] mn)) := by
                    show _ = _
                    rw [List.take_succ_eq_append_getElem hlj, List.any_append]
                    simp
                  generalize ns[j] = x at *
                  have hjl : (j : Int) < (ns.length : Int) := by omega
                  clear hcel
                  cases hb : (ns.take j).any (fun x => nmq x mn)
                  · rw [hb] at HSA
                    go_wp2_with fail
                    go_quiet (fail)
                    go_wp2_with fail
                    go_roundg (ns.length - (j + 1))
                    case rel =>
                      refine ⟨j + 1, by omega, rfl, by go_num, by rw [HSA.out]; rfl, hbv.out.trans ((hbn nq).mono hsv)⟩
                    case measure => omega
                  · rw [hb] at HSA
                    go_wp2_with fail
                    go_quiet (fail)
                    go_wp2_with fail
                    go_roundg (ns.length - (j + 1))
                    case rel =>
                      refine ⟨j + 1, by omega, rfl, by go_num, by rw [HSA.out]; rfl, hbv.out.trans ((hbn nq).mono hsv)⟩
                    case measure => omega
                · have hjl : ¬ (j : Int) < (ns.length : Int) := by omega
                  have hje : (ns.take j).any (fun x => nmq x mn) = inF ns ⟨mn, m1, m2, m3⟩ := by rw [List.take_of_length_le (by omega)]; rfl
                  rw [hje]
                  clear hje hgj
                  cases hin : inF ns ⟨mn, m1, m2, m3⟩
                  · have HAL : Hid (∀ o, (wr.alloc o).ownsRow W3.heap.size 31 4 (.slice a' n c') n (mtC ((L.take k).filter fun m => !inF ns m))) := fun o => World.ownsRow.alloc (row_below hrow.out hbv.out) o
                    have HST2 : Hid ((L.take (k + 1)).filter (fun m => !inF ns m) = (L.take k).filter (fun m => !inF ns m) ++ [⟨mn, m1, m2, m3⟩]) := by show _ = _; rw [HST.out, hin]; rfl
                    generalize (L.take k).filter (fun m => !inF ns m) = R at *
                    go_wp2_with (at_builtin; refine wpList_append_row appMt _ rfl _ _ rfl W3.heap.size _ n (mtC R) rfl (HAL.out _) _ 1 [.string mn, .int .i64 m1, .int .i64 m2, .int .i64 m3] rfl (RowAt.of_block (cs := #[.string mn, .int .i64 m1, .int .i64 m2, .int .i64 m3]) (heap_alloc_new wr _) rfl (by decide)) (by simp [Value.oneCell']) (by omega) (by simp; omega) ?_; intro a5 c5 w5 hr5 hg5 hw5)
                    go_roundg (L.length - (k + 1))
                    case rel =>
                      refine ⟨k + 1, n + 1, a5, c5, by omega, rfl, by go_num, rfl, by omega, ?_, ?_, ?_⟩
                      · show _ = _
                        rw [HST2.out, List.length_append, ← hn.out]; rfl
                      · show World.ownsRow _ _ _ _ _ _ _
                        rw [HST2.out, mtC_snoc]
                        exact hr5
                      · exact (hb3.alloc (by omega) _).grown hg5 (by simp; omega) (fun i hi => (World.ownsRow.lt (row_below hrow.out hbv.out) i hi).1)
                    case measure => omega
                  · obtain ⟨hw1, hw2⟩ := HWM.out hin
                    have hJ := hb3.block J hJ3
                    rw [HJB.out] at hJ
                    have j1 : wr.cell? ⟨J, 1, none⟩ = some (.int .i64 jl) := World.news_of_block hJ 1 _ rfl
                    have j2 : wr.cell? ⟨J, 2, none⟩ = some (.int .i64 jh) := World.news_of_block hJ 2 _ rfl
                    have HST2 : Hid ((L.take (k + 1)).filter (fun m => !inF ns m) = (L.take k).filter (fun m => !inF ns m)) := by show _ = _; rw [HST.out, hin]; simp
                    have hd1 : decide (m1 < jl) = false := by simp; omega
                    have hd2 : decide (jh < m2) = false := by simp; omega
                    have hp1 : ¬ m1 < jl := by simpa using hd1
                    have hp2 : ¬ m2 > jh := by omega
                    clear hJ hw1 hw2
                    go_wp2_with fail
                    go_quiet (fail)
                    go_wp2_with fail
                    go_roundg (L.length - (k + 1))
                    case rel =>
                      refine ⟨k + 1, n, a', c', by omega, rfl, by go_num, rfl, by omega, ?_, ?_, hb3.trans ((hbn nq).mono (by omega))⟩
                      · show _ = _
                        rw [HST2.out]; exact hn.out
                      · show World.ownsRow _ _ _ _ _ _ _
                        rw [HST2.out]
                        exact row_below (row_below hrow.out hbv.out) (hbn nq)
                    case measure => omega
            · obtain rfl : k = L.length := by omega
              have hkl : ¬ ((L.length : Nat) : Int) < (L.length : Int) := by omega
              have hke : L.take L.length = L := List.take_of_length_le (Nat.le_refl _)
              rw [hke] at hrow hn
              have hJ := hbel.out.block J hJ3
              rw [HJB.out] at hJ
              have j0 : wr.cell? ⟨J, 0, none⟩ = some (.string NM) := World.news_of_block hJ 0 _ rfl
              have j1 : wr.cell? ⟨J, 1, none⟩ = some (.int .i64 jl) := World.news_of_block hJ 1 _ rfl
              have j2 : wr.cell? ⟨J, 2, none⟩ = some (.int .i64 jh) := World.news_of_block hJ 2 _ rfl
              have j3 : wr.cell? ⟨J, 3, none⟩ = some (.int .i64 jv) := World.news_of_block hJ 3 _ rfl
              have hrl := HRC.out
              have hc9 := HCT.out
              rw [← hn.out] at hrl
              have hnr : n + 2 ≤ L.length := by omega
              have HAL : Hid (∀ o, (wr.alloc o).ownsRow W3.heap.size 31 4 (.slice a' n c') n (mtC (L.filter fun m => !inF ns m))) := fun o => World.ownsRow.alloc hrow.out o
              have HSZ : Hid (∀ m ∈ L.filter (fun m => !inF ns m), m.nm.size ≤ 3) := fun m hm => hsz.out m (List.mem_filter.1 hm).1
              clear hJ hrl hc9 hke
              generalize L.filter (fun m => !inF ns m) = R at *
              go_wp2_with (at_builtin; refine wpList_append_row appMt _ rfl _ _ rfl W3.heap.size _ n (mtC R) rfl (HAL.out _) _ 1 [.string NM, .int .i64 jl, .int .i64 jh, .int .i64 jv] rfl (RowAt.of_block (cs := #[.string NM, .int .i64 jl, .int .i64 jh, .int .i64 jv]) (heap_alloc_new wr _) rfl (by decide)) (by simp [Value.oneCell']) (by omega) (by simp; omega) ?_; intro a5 c5 w5 hr5 hg5 hw5)
              go_roundg (31 - (r + 1))
              case rel =>
                have h9 : (R ++ [(⟨NM, jl, jh, jv⟩ : Mt)]).length = n + 1 := by rw [List.length_append, ← hn.out]; rfl
                refine ⟨r + 1, R ++ [⟨NM, jl, jh, jv⟩], a5, c5, by rw [h9]; omega, rfl, by go_num, by rw [h9], fun m hm => ?_, ?_, ?_⟩
                · rcases List.mem_append.1 hm with hm | hm
                  · exact HSZ.out m hm
                  · rw [List.mem_singleton] at hm
                    subst hm
                    exact hNs
                · show World.ownsRow _ _ _ _ _ _ _
                  rw [h9, mtC_snoc]
                  exact row_mono hr5 hsw3
                · have hb9 : Below W3.heap.size W3 w5 := (hbel.out.alloc hswx _).grown hg5 (by simp; omega) (fun i hi => (World.ownsRow.lt hrow.out i hi).1)
                  exact HB4.out.trans (hb9.mono hsw3)
              case measure => omega

end Go.Proofs.Ytfkahbgphoonaaa
