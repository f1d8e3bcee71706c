/- The document's Joined. -/
import Derived.Test.YtfkahbgphoonaaaTa
namespace Go.Proofs.Ytfkahbgphoonaaa
open Go.RowKit Go.Shelf Go.Maps Go.Sort

theorem res_rjoin (tmps : Array Value) (b : Nat) (ok : Bool) (hp : tmps.getD 4 undef = .pointer (some ⟨b, 0, none⟩)) (h3 : tmps.getD 5 undef = .bool ok) (W : World) (v0 v1 v2 v3 : Value) (hb : W.heap[b]? = some (.cells #[v0, v1, v2, v3] 31 (0, 0))) :
    (results Try.f12 tmps).run Try.prog W = .ok (.tuple #[.agg #[v0, v1, v2, v3], .bool ok]) W := by
  have hp' : tmps[4]?.getD undef = .pointer (some ⟨b, 0, none⟩) := by simpa using hp
  have h3' : tmps[5]?.getD undef = .bool ok := by simpa using h3
  have hc0 : W.cell? ⟨b, 0, none⟩ = some v0 := by simp [World.cell?, hb]
  have hc1 : W.cell? ⟨b, 1, none⟩ = some v1 := by simp [World.cell?, hb]
  have hc2 : W.cell? ⟨b, 2, none⟩ = some v2 := by simp [World.cell?, hb]
  have hc3 : W.cell? ⟨b, 3, none⟩ = some v3 := by simp [World.cell?, hb]
  simp [results, Try.results12, hp', h3', go_sem, hc0, hc1, hc2, hc3]

/-- The world of the document's Joined: the result's cells, the joined block's, the block's at hand. -/
structure RW (w : World) (M : Nat) (cs ms : Array Value) (X : World) : Prop where
  res : X.heap[w.heap.size]? = some (.cells #[.string ByteArray.empty, .int .i64 0, .int .i64 0, .int .i64 0] 31)
  one : X.heap[w.heap.size + 1]? = some (.cells cs 31)
  here : X.heap[M]? = some (.cells ms 31)
  below : Below w.heap.size w X
theorem RW.set {w X : World} {M : Nat} {cs ms : Array Value} (h : RW w M cs ms X) (hM : ¬ M = w.heap.size + 1) (i : Nat) (u : Value) : RW w M (cs.set! i u) ms (X.setCell ⟨w.heap.size + 1, i, none⟩ u) where
  res := by rw [Below.heap_setCell _ _ _ _ (by simp)]; exact h.res
  one := heap_setCell_same h.one u
  here := by rw [Below.heap_setCell _ _ _ _ (by simp; omega)]; exact h.here
  below := h.below.setCell (p := ⟨w.heap.size + 1, i, none⟩) (by simp) u
theorem RW.step {w X Y : World} {M : Nat} {cs ms : Array Value} (h : RW w M cs ms X) (hb : Below X.heap.size X Y) : RW w M cs ms Y where
  res := (hb.block _ (Array.getElem?_eq_some_iff.1 h.res).1).trans h.res
  one := (hb.block _ (Array.getElem?_eq_some_iff.1 h.one).1).trans h.one
  here := (hb.block _ (Array.getElem?_eq_some_iff.1 h.here).1).trans h.here
  below := h.below.trans (hb.mono h.below.size)

/-- The document keeps no name. -/
def nnV (o : Mt) : Array Value := #[.string ByteArray.empty, .int .i64 o.lo, .int .i64 o.hi, .int .i64 o.lv]

theorem jst_eq (ns : List ByteArray) (met : Nat) (o m : Mt) (hin : inF ns m = true) (pn : ByteArray) (p1 p2 p3 : Int) (hp : (⟨pn, p1, p2, p3⟩ : Mt) = if met = 0 then m else o) (e1 e2 e3 : Int) (h1 : e1 = min p1 m.lo) (h2 : e2 = max p2 m.hi) (h3 : e3 = max p3 m.lv) : jStep ns (met, o) m = (met + 1, ⟨pn, e1, e2, e3⟩) := by
  unfold jStep
  rw [if_pos hin]
  dsimp only
  rw [← hp, h1, h2, h3]

set_option maxRecDepth 100000 in
set_option maxHeartbeats 2000000 in
theorem refJoined_any (v vn : Value) (L : List Mt) (ns : List ByteArray) (w : World) (h : MtAt w v L) (hn : StAt w vn ns) (hl : L.length ≤ 1000) (hln : ns.length ≤ 100000) :
    Calls Try.prog 12 #[v, vn] w fun e w' => e = .returned (joinV (joinF ns L)) ∧ Below w.heap.size w w' := by
  obtain ⟨a1, c1, rfl, -⟩ := id h
  obtain ⟨a2, c2, rfl, -⟩ := id hn
  have HL : Hid (MtAt w (.slice a1 L.length c1) L) := h
  have HN : Hid (∀ X, Below w.heap.size w X → StAt X (.slice a2 ns.length c2) ns) := fun X hX => RowAt.below hn hX
  clear h hn
  go_enter Try.func12, Try.ntmps12
  go_wp2
  go_loopg [7, 8] L.length (fun g mv i wx => ∃ (k : Nat), k ≤ L.length ∧ g = L.length - k ∧ i = .int .i64 k ∧ mv = .int .i64 (joinF ns (L.take k)).1 ∧ Hid (wx.heap[w.heap.size]? = some (.cells #[.string ByteArray.empty, .int .i64 0, .int .i64 0, .int .i64 0] 31)) ∧ Hid (wx.heap[w.heap.size + 1]? = some (.cells (nnV (joinF ns (L.take k)).2) 31)) ∧ Hid (Below w.heap.size w wx))
  case atStart =>
    refine ⟨0, Nat.zero_le _, rfl, rfl, rfl, ?_, ?_, ((Below.refl _ _).alloc (Nat.le_refl _) _).alloc (by simp) _⟩
    · exact heap_alloc2_old w _ _
    · exact heap_alloc2_new w _ _
  case round =>
    obtain ⟨k, hk, hgk, rfl, rfl, hres, hone1, hbel⟩ := hrel
    have hsw := hbel.out.size
    have hgx : w.heap.size + 1 < wr.heap.size := (Array.getElem?_eq_some_iff.1 hone1.out).1
    have hmt : (joinF ns (L.take k)).1 ≤ k := by
      rw [joinF_1]
      have h1 := List.countP_le_length (p := inF ns) (l := L.take k)
      rw [List.length_take] at h1
      omega
    by_cases hlt : k < L.length
    · obtain ⟨b0, o0, e0, hcell⟩ := MtAt.one HL.out k hlt
      subst e0
      obtain ⟨g0, g1, g2, g3⟩ := hcell wr hbel.out
      have HST : Hid (joinF ns (L.take (k + 1)) = jStep ns (joinF ns (L.take k)) L[k]) := by
        show _ = _
        rw [List.take_succ_eq_append_getElem hlt, joinF_snoc]
      have hkl : (k : Int) < (L.length : Int) := by omega
      clear hcell
      generalize L[k] = m at *
      generalize joinF ns (L.take k) = s at *
      obtain ⟨met, o⟩ := s
      obtain ⟨mn, m1, m2, m3⟩ := m
      dsimp only at *
      have HW : Hid (RW w wr.heap.size (nnV o) #[.string mn, .int .i64 m1, .int .i64 m2, .int .i64 m3] (wr.alloc (.cells #[.string mn, .int .i64 m1, .int .i64 m2, .int .i64 m3] 31))) := by
        refine ⟨?_, ?_, heap_alloc_new wr _, hbel.out.alloc hsw _⟩
        · rw [Below.heap_alloc _ _ _ (by omega)]; exact hres.out
        · rw [Below.heap_alloc _ _ _ hgx]; exact hone1.out
      go_wp2_with fail
      obtain ⟨V, hV⟩ : ∃ V, V = wr.alloc (.cells #[.string mn, .int .i64 m1, .int .i64 m2, .int .i64 m3] 31) := ⟨_, rfl⟩
      rw [← hV] at HW ⊢
      have hVs : V.heap.size = wr.heap.size + 1 := by rw [hV]; simp
      have hneq : ¬ wr.heap.size = w.heap.size + 1 := by omega
      clear hV hres hone1 hbel g0 g1 g2 g3
      generalize wr.heap.size = M at *
      go_loopg [10, 11] ns.length (fun g vi i wx => ∃ (j : Nat), j ≤ ns.length ∧ g = ns.length - j ∧ i = .int .i64 j ∧ vi = .bool ((ns.take j).any fun x => nmq x mn) ∧ Hid (Below V.heap.size V wx))
      case atStart => exact ⟨0, Nat.zero_le _, rfl, rfl, rfl, Below.refl _ _⟩
      case round =>
        obtain ⟨j, hj, hgj, rfl, rfl, hbv⟩ := hrel
        have hbn := fun q => below_drewN (Below.refl wr.heap.size wr) q
        have hsv := hbv.out.size
        have hJ := HW.out.step hbv.out
        have d0 : wr.cell? ⟨M, 0, none⟩ = some (.string mn) := World.news_of_block hJ.here 0 _ rfl
        by_cases hlj : j < ns.length
        · obtain ⟨b1, o1, e1, hcel⟩ := StAt.one (HN.out wr hJ.below) j hlj
          subst e1
          have t0 := hcel wr (Below.refl _ _)
          have HSA : Hid ((ns.take (j + 1)).any (fun x => nmq x mn) = ((ns.take j).any (fun x => nmq x mn) || nmq ns[j] mn)) := by
            show _ = _
            rw [List.take_succ_eq_append_getElem hlj, List.any_append]
            simp
          generalize ns[j] = x at *
          have hjl : (j : Int) < (ns.length : Int) := by omega
          clear hcel hJ
          cases hb : (ns.take j).any (fun x => nmq x mn)
          · rw [hb] at HSA
            go_wp2_with fail
            go_quiet (fail)
            go_wp2_with fail
            go_roundg (ns.length - (j + 1))
            case rel => exact ⟨j + 1, by omega, rfl, by go_num, by rw [HSA.out]; rfl, hbv.out.trans ((hbn nq).mono hsv)⟩
            case measure => omega
          · rw [hb] at HSA
            go_wp2_with fail
            go_quiet (fail)
            go_wp2_with fail
            go_roundg (ns.length - (j + 1))
            case rel => exact ⟨j + 1, by omega, rfl, by go_num, by rw [HSA.out]; rfl, hbv.out.trans ((hbn nq).mono hsv)⟩
            case measure => omega
        · have hjl : ¬ (j : Int) < (ns.length : Int) := by omega
          have hje : (ns.take j).any (fun x => nmq x mn) = inF ns ⟨mn, m1, m2, m3⟩ := by rw [List.take_of_length_le (by omega)]; rfl
          rw [hje]
          clear hje hgj
          cases hin : inF ns ⟨mn, m1, m2, m3⟩
          · go_wp2_with fail
            go_roundg (L.length - (k + 1))
            case rel =>
              have h9 : joinF ns (L.take (k + 1)) = (met, o) := by rw [HST.out]; unfold jStep; rw [hin]; rfl
              refine ⟨k + 1, by omega, rfl, by go_num, by rw [h9], hJ.res, ?_, hJ.below⟩
              show _ = _
              rw [h9]
              exact hJ.one
            case measure => omega
          · go_upto_if 41 with fail
            obtain ⟨on, o1, o2, o3⟩ := o
            have hXG := hJ.one
            have hXM := hJ.here
            have c0 : wr.cell? ⟨w.heap.size + 1, 0, none⟩ = some (.string ByteArray.empty) := World.news_of_block hXG 0 _ rfl
            have c1' : wr.cell? ⟨w.heap.size + 1, 1, none⟩ = some (.int .i64 o1) := World.news_of_block hXG 1 _ rfl
            have c2' : wr.cell? ⟨w.heap.size + 1, 2, none⟩ = some (.int .i64 o2) := World.news_of_block hXG 2 _ rfl
            have c3 : wr.cell? ⟨w.heap.size + 1, 3, none⟩ = some (.int .i64 o3) := World.news_of_block hXG 3 _ rfl
            have d1 : wr.cell? ⟨M, 1, none⟩ = some (.int .i64 m1) := World.news_of_block hXM 1 _ rfl
            have d2 : wr.cell? ⟨M, 2, none⟩ = some (.int .i64 m2) := World.news_of_block hXM 2 _ rfl
            have d3 : wr.cell? ⟨M, 3, none⟩ = some (.int .i64 m3) := World.news_of_block hXM 3 _ rfl
            have q0 : wr.frozen? ⟨w.heap.size + 1, 0, none⟩ = false := frozen_of_heap hXG
            have q1 : wr.frozen? ⟨w.heap.size + 1, 1, none⟩ = false := frozen_of_heap hXG
            have q2 : wr.frozen? ⟨w.heap.size + 1, 2, none⟩ = false := frozen_of_heap hXG
            have q3 : wr.frozen? ⟨w.heap.size + 1, 3, none⟩ = false := frozen_of_heap hXG
            have HJ : Hid (RW w M (nnV ⟨on, o1, o2, o3⟩) #[.string mn, .int .i64 m1, .int .i64 m2, .int .i64 m3] wr) := hJ
            clear hXG hXM hJ hbv HW hsv hbn
            go_cut [6] from 22 to 73 (fun pv wx => pv = .pointer (some ⟨w.heap.size + 1, 0, none⟩) ∧ ∃ p : Mt, Hid (p = if met = 0 then (⟨mn, m1, m2, m3⟩ : Mt) else ⟨on, o1, o2, o3⟩) ∧ Hid (RW w M (nnV p) #[.string mn, .int .i64 m1, .int .i64 m2, .int .i64 m3] wx))
            case first =>
              by_cases h0 : met = 0
              · have h0i : ((met : Int) == 0) = true := by simp [h0]
                have H0 : Hid (met = 0) := h0
                clear h0
                go_wp2_with fail
                go_meet
                exact ⟨rfl, ⟨mn, m1, m2, m3⟩, by show _ = _; rw [if_pos H0.out], (((HJ.out.set hneq 0 _).set hneq 1 _).set hneq 2 _).set hneq 3 _⟩
              · have h0i : ((met : Int) == 0) = false := by simp [h0]
                go_wp2_with fail
                go_meet
                exact ⟨rfl, ⟨on, o1, o2, o3⟩, by show _ = _; rw [if_neg h0], HJ.out⟩
            case rest =>
              clear HJ c0 c1' c2' c3 d0 d1 d2 d3 q0 q1 q2 q3
              obtain ⟨rfl, p, HP, HJ⟩ := hcut
              obtain ⟨pn, p1, p2, p3⟩ := p
              have hXG := HJ.out.one
              have hXM := HJ.out.here
              have c1' : wc.cell? ⟨w.heap.size + 1, 1, none⟩ = some (.int .i64 p1) := World.news_of_block hXG 1 _ rfl
              have c2' : wc.cell? ⟨w.heap.size + 1, 2, none⟩ = some (.int .i64 p2) := World.news_of_block hXG 2 _ rfl
              have c3 : wc.cell? ⟨w.heap.size + 1, 3, none⟩ = some (.int .i64 p3) := World.news_of_block hXG 3 _ rfl
              have d1 : wc.cell? ⟨M, 1, none⟩ = some (.int .i64 m1) := World.news_of_block hXM 1 _ rfl
              have d2 : wc.cell? ⟨M, 2, none⟩ = some (.int .i64 m2) := World.news_of_block hXM 2 _ rfl
              have d3 : wc.cell? ⟨M, 3, none⟩ = some (.int .i64 m3) := World.news_of_block hXM 3 _ rfl
              have z1 : wc.frozen? ⟨w.heap.size + 1, 1, none⟩ = false := frozen_of_heap hXG
              have z2 : wc.frozen? ⟨w.heap.size + 1, 2, none⟩ = false := frozen_of_heap hXG
              have z3 : wc.frozen? ⟨w.heap.size + 1, 3, none⟩ = false := frozen_of_heap hXG
              clear hXG hXM
              by_cases q1 : m1 < p1
              · skip
                by_cases q2 : m2 > p2
                · skip
                  by_cases q3 : m3 > p3
                  · skip
                    go_wp2_with fail
                    go_roundg (L.length - (k + 1))
                    case rel =>
                      have J := (((HJ.out.set hneq 1 (.int .i64 m1)).set hneq 2 (.int .i64 m2)).set hneq 3 (.int .i64 m3))
                      have h9 : joinF ns (L.take (k + 1)) = (met + 1, ⟨pn, m1, m2, m3⟩) := by rw [HST.out]; exact jst_eq ns met _ _ hin pn p1 p2 p3 HP.out m1 m2 m3 (by show _ = min p1 m1; omega) (by show _ = max p2 m2; omega) (by show _ = max p3 m3; omega)
                      refine ⟨k + 1, by omega, rfl, by go_num, by rw [h9]; go_num, J.res, ?_, J.below⟩
                      show _ = _
                      rw [h9]
                      exact J.one
                    case measure => omega
                  · skip
                    go_wp2_with fail
                    go_roundg (L.length - (k + 1))
                    case rel =>
                      have J := ((HJ.out.set hneq 1 (.int .i64 m1)).set hneq 2 (.int .i64 m2))
                      have h9 : joinF ns (L.take (k + 1)) = (met + 1, ⟨pn, m1, m2, p3⟩) := by rw [HST.out]; exact jst_eq ns met _ _ hin pn p1 p2 p3 HP.out m1 m2 p3 (by show _ = min p1 m1; omega) (by show _ = max p2 m2; omega) (by show _ = max p3 m3; omega)
                      refine ⟨k + 1, by omega, rfl, by go_num, by rw [h9]; go_num, J.res, ?_, J.below⟩
                      show _ = _
                      rw [h9]
                      exact J.one
                    case measure => omega
                · skip
                  by_cases q3 : m3 > p3
                  · skip
                    go_wp2_with fail
                    go_roundg (L.length - (k + 1))
                    case rel =>
                      have J := ((HJ.out.set hneq 1 (.int .i64 m1)).set hneq 3 (.int .i64 m3))
                      have h9 : joinF ns (L.take (k + 1)) = (met + 1, ⟨pn, m1, p2, m3⟩) := by rw [HST.out]; exact jst_eq ns met _ _ hin pn p1 p2 p3 HP.out m1 p2 m3 (by show _ = min p1 m1; omega) (by show _ = max p2 m2; omega) (by show _ = max p3 m3; omega)
                      refine ⟨k + 1, by omega, rfl, by go_num, by rw [h9]; go_num, J.res, ?_, J.below⟩
                      show _ = _
                      rw [h9]
                      exact J.one
                    case measure => omega
                  · skip
                    go_wp2_with fail
                    go_roundg (L.length - (k + 1))
                    case rel =>
                      have J := (HJ.out.set hneq 1 (.int .i64 m1))
                      have h9 : joinF ns (L.take (k + 1)) = (met + 1, ⟨pn, m1, p2, p3⟩) := by rw [HST.out]; exact jst_eq ns met _ _ hin pn p1 p2 p3 HP.out m1 p2 p3 (by show _ = min p1 m1; omega) (by show _ = max p2 m2; omega) (by show _ = max p3 m3; omega)
                      refine ⟨k + 1, by omega, rfl, by go_num, by rw [h9]; go_num, J.res, ?_, J.below⟩
                      show _ = _
                      rw [h9]
                      exact J.one
                    case measure => omega
              · skip
                by_cases q2 : m2 > p2
                · skip
                  by_cases q3 : m3 > p3
                  · skip
                    go_wp2_with fail
                    go_roundg (L.length - (k + 1))
                    case rel =>
                      have J := ((HJ.out.set hneq 2 (.int .i64 m2)).set hneq 3 (.int .i64 m3))
                      have h9 : joinF ns (L.take (k + 1)) = (met + 1, ⟨pn, p1, m2, m3⟩) := by rw [HST.out]; exact jst_eq ns met _ _ hin pn p1 p2 p3 HP.out p1 m2 m3 (by show _ = min p1 m1; omega) (by show _ = max p2 m2; omega) (by show _ = max p3 m3; omega)
                      refine ⟨k + 1, by omega, rfl, by go_num, by rw [h9]; go_num, J.res, ?_, J.below⟩
                      show _ = _
                      rw [h9]
                      exact J.one
                    case measure => omega
                  · skip
                    go_wp2_with fail
                    go_roundg (L.length - (k + 1))
                    case rel =>
                      have J := (HJ.out.set hneq 2 (.int .i64 m2))
                      have h9 : joinF ns (L.take (k + 1)) = (met + 1, ⟨pn, p1, m2, p3⟩) := by rw [HST.out]; exact jst_eq ns met _ _ hin pn p1 p2 p3 HP.out p1 m2 p3 (by show _ = min p1 m1; omega) (by show _ = max p2 m2; omega) (by show _ = max p3 m3; omega)
                      refine ⟨k + 1, by omega, rfl, by go_num, by rw [h9]; go_num, J.res, ?_, J.below⟩
                      show _ = _
                      rw [h9]
                      exact J.one
                    case measure => omega
                · skip
                  by_cases q3 : m3 > p3
                  · skip
                    go_wp2_with fail
                    go_roundg (L.length - (k + 1))
                    case rel =>
                      have J := (HJ.out.set hneq 3 (.int .i64 m3))
                      have h9 : joinF ns (L.take (k + 1)) = (met + 1, ⟨pn, p1, p2, m3⟩) := by rw [HST.out]; exact jst_eq ns met _ _ hin pn p1 p2 p3 HP.out p1 p2 m3 (by show _ = min p1 m1; omega) (by show _ = max p2 m2; omega) (by show _ = max p3 m3; omega)
                      refine ⟨k + 1, by omega, rfl, by go_num, by rw [h9]; go_num, J.res, ?_, J.below⟩
                      show _ = _
                      rw [h9]
                      exact J.one
                    case measure => omega
                  · skip
                    go_wp2_with fail
                    go_roundg (L.length - (k + 1))
                    case rel =>
                      have J := HJ.out
                      have h9 : joinF ns (L.take (k + 1)) = (met + 1, ⟨pn, p1, p2, p3⟩) := by rw [HST.out]; exact jst_eq ns met _ _ hin pn p1 p2 p3 HP.out p1 p2 p3 (by show _ = min p1 m1; omega) (by show _ = max p2 m2; omega) (by show _ = max p3 m3; omega)
                      refine ⟨k + 1, by omega, rfl, by go_num, by rw [h9]; go_num, J.res, ?_, J.below⟩
                      show _ = _
                      rw [h9]
                      exact J.one
                    case measure => omega
    · have hkl : ¬ (k : Int) < (L.length : Int) := by omega
      have hke : L.take k = L := List.take_of_length_le (by omega)
      rw [hke] at hone1 hmt ⊢
      obtain ⟨s, hs⟩ : ∃ s, s = joinF ns L := ⟨_, rfl⟩
      have HS : Hid (joinF ns L = s) := hs.symm
      rw [← hs] at hone1 hmt ⊢
      clear hs
      obtain ⟨met, on, o1, o2, o3⟩ := s
      dsimp only at *
      have hXG := hone1.out
      have hXR := hres.out
      have c0 : wr.cell? ⟨w.heap.size + 1, 0, none⟩ = some (.string ByteArray.empty) := World.news_of_block hXG 0 _ rfl
      have c1' : wr.cell? ⟨w.heap.size + 1, 1, none⟩ = some (.int .i64 o1) := World.news_of_block hXG 1 _ rfl
      have c2' : wr.cell? ⟨w.heap.size + 1, 2, none⟩ = some (.int .i64 o2) := World.news_of_block hXG 2 _ rfl
      have c3 : wr.cell? ⟨w.heap.size + 1, 3, none⟩ = some (.int .i64 o3) := World.news_of_block hXG 3 _ rfl
      have q3 : wr.frozen? ⟨w.heap.size + 1, 3, none⟩ = false := frozen_of_heap hXG
      have d0 : wr.cell? ⟨w.heap.size, 0, none⟩ = some (.string ByteArray.empty) := World.news_of_block hXR 0 _ rfl
      have d1 : wr.cell? ⟨w.heap.size, 1, none⟩ = some (.int .i64 0) := World.news_of_block hXR 1 _ rfl
      have d2 : wr.cell? ⟨w.heap.size, 2, none⟩ = some (.int .i64 0) := World.news_of_block hXR 2 _ rfl
      have d3 : wr.cell? ⟨w.heap.size, 3, none⟩ = some (.int .i64 0) := World.news_of_block hXR 3 _ rfl
      have r0 : wr.frozen? ⟨w.heap.size, 0, none⟩ = false := frozen_of_heap hXR
      have r1 : wr.frozen? ⟨w.heap.size, 1, none⟩ = false := frozen_of_heap hXR
      have r2 : wr.frozen? ⟨w.heap.size, 2, none⟩ = false := frozen_of_heap hXR
      have r3 : wr.frozen? ⟨w.heap.size, 3, none⟩ = false := frozen_of_heap hXR
      clear hXG hXR
      by_cases h2 : met < 2
      · have h2i : (met : Int) < 2 := by omega
        go_wp2_with fail
        refine bodyPost_ret (res_rjoin _ _ false rfl rfl _ _ _ _ _ (set4 hres.out _ _ _ _)) rfl ⟨?_, ?_⟩
        · rw [HS.out]
          unfold joinV
          rw [if_pos h2, decide_eq_false (by omega)]
          rfl
        · exact (((hbel.out.setCell (p := ⟨w.heap.size, 0, none⟩) (Nat.le_refl _) _).setCell (p := ⟨w.heap.size, 1, none⟩) (Nat.le_refl _) _).setCell (p := ⟨w.heap.size, 2, none⟩) (Nat.le_refl _) _).setCell (p := ⟨w.heap.size, 3, none⟩) (Nat.le_refl _) _
      · have h2i : ¬ (met : Int) < 2 := by omega
        go_wp2_with fail
        have h8 : (wr.setCell ⟨w.heap.size + 1, 3, none⟩ (.int .i64 (wrap64 (o3 + 1)))).heap[w.heap.size]? = some (.cells #[.string ByteArray.empty, .int .i64 0, .int .i64 0, .int .i64 0] 31) := by
          rw [Below.heap_setCell _ _ _ _ (by simp)]
          exact hres.out
        have h7 : Below w.heap.size w (wr.setCell ⟨w.heap.size + 1, 3, none⟩ (.int .i64 (wrap64 (o3 + 1)))) := hbel.out.setCell (p := ⟨w.heap.size + 1, 3, none⟩) (by simp) _
        refine bodyPost_ret (res_rjoin _ _ true rfl rfl _ _ _ _ _ (set4 h8 _ _ _ _)) rfl ⟨?_, ?_⟩
        · rw [HS.out]
          unfold joinV
          rw [if_neg h2, decide_eq_true (by omega)]
        · exact (((h7.setCell (p := ⟨w.heap.size, 0, none⟩) (Nat.le_refl _) _).setCell (p := ⟨w.heap.size, 1, none⟩) (Nat.le_refl _) _).setCell (p := ⟨w.heap.size, 2, none⟩) (Nat.le_refl _) _).setCell (p := ⟨w.heap.size, 3, none⟩) (Nat.le_refl _) _

end Go.Proofs.Ytfkahbgphoonaaa
