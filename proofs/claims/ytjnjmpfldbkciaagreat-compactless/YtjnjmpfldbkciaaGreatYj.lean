/- together. -/
import Derived.Test.YtjnjmpfldbkciaaGreatYc
import Derived.WalkMore
namespace Go.Proofs.YtjnjmpfldbkciaaGreat
open Go.RowKit Go.Maps Go.Sort

/-- Two lists of samples as one. -/
def togS : List Sm → List Sm → List Sm
  | a, [] => a
  | [], y :: b => y :: togS [] b
  | x :: a, y :: b => if x.1 < y.1 then x :: togS a (y :: b) else if x.1 = y.1 then togS (x :: a) b else y :: togS (x :: a) b
termination_by a b => a.length + b.length

theorem RowAt.drop {w : World} {b o k n c : Nat} {cs : List Value} (h : RowAt w (.slice (some ⟨b, o, none⟩) n c) k n cs) (hn : 1 ≤ n) : RowAt w (.slice (some ⟨b, o + k, none⟩) (n - 1) (c - 1)) k (n - 1) (cs.drop k) := by
  obtain ⟨a', c', e, h1, h2, h3⟩ := h
  cases e
  refine ⟨_, _, rfl, ⟨by omega, by omega⟩, ?_, fun j u hu => ?_⟩
  · rw [List.length_drop, h2]
    obtain ⟨m, rfl⟩ : ∃ m, n = m + 1 := ⟨n - 1, by omega⟩
    rw [Nat.add_mul]
    simp
  · rw [List.getElem?_drop] at hu
    obtain ⟨b', o', e, h4, h5⟩ := h3 _ _ hu
    cases e
    exact ⟨b, o + k, rfl, h4, by rw [Nat.add_assoc]; exact h5⟩

theorem SmAt.tail {w : World} {b o c : Nat} {x : Sm} {pt : List Sm} (h : SmAt w (.slice (some ⟨b, o, none⟩) (x :: pt).length c) (x :: pt)) : SmAt w (.slice (if c = 1 then some ⟨b, o, none⟩ else some ⟨b, o + 2, none⟩) pt.length (c - 1)) pt := by
  obtain ⟨_, _, e, h1, h2⟩ := RowAt.sub h
  cases e
  by_cases hc : c = 1
  · subst hc
    have : pt = [] := by
      cases pt with
      | nil => rfl
      | cons y t => simp at h1
    subst this
    exact ⟨_, _, rfl, ⟨Nat.le_refl _, Nat.zero_le _⟩, rfl, fun j u hu => by simp [smC] at hu⟩
  · rw [if_neg hc]
    have h9 := RowAt.drop h (by simp)
    simp only [List.length_cons, Nat.add_sub_cancel] at h9
    exact h9
theorem run_store_float {P : Program} {w : World} {a : Addr} {m : Mode} (k : FloatKind) (x : Nat) : (store a (.float k x) m).run P w = stored P w a (.float k x) m := run_store P w a _ m rfl
attribute [local go_sem] run_store_float

set_option maxRecDepth 100000 in
set_option maxHeartbeats 2000000 in
theorem together_any (va vb : Value) (xs ys : List Sm) (w : World) (ha : SmAt w va xs) (hb : SmAt w vb ys) (hl : xs.length + ys.length ≤ 100000) :
    Calls Tryz.prog 92 #[va, vb] w fun e w' => ∃ a c, e = .returned (.slice a (togS xs ys).length c) ∧ w'.ownsRow w.heap.size 42 2 (.slice a (togS xs ys).length c) (togS xs ys).length (smC (togS xs ys)) ∧ Below w.heap.size w w' := by
  obtain ⟨a1, c1, rfl, hc1, -⟩ := id ha
  obtain ⟨a2, c2, rfl, hc2, -⟩ := id hb
  have hmx1 : (c1 : Int) ≤ 9223372036854775807 := by have h1 := hc1.2; unfold maxLen at h1; omega
  have i0 : (Tryz.prog.info? 42).map (fun i => (i.zero, i.size, i.bytes)) = some (some (.agg #[.int .i64 0, .float .f64 0]), 2, 16) := by kernel_rfl
  obtain ⟨i0, hi0, hz0, hz1, hz2⟩ := info_parts i0
  obtain ⟨w0, hmk, hown0, hgrow0⟩ := run_make_own (P := Tryz.prog) (w := w) w.heap.size 34 42 i0 _ 2 Tryz.underlying34 hi0 hz0 hz1 .i64 .i64 (xs.length + ys.length) (by rw [hz2]; omega) (by unfold maxLen; omega) (Nat.le_refl _)
  rw [Int.natCast_add] at hmk
  have HB0 : Hid (Below w.heap.size w w0) := (Below.refl _ _).grown hgrow0 (Nat.le_refl _) (fun k hk => by cases hk)
  have HO0 : Hid (w0.ownsRow w.heap.size 42 2 (.slice (some ⟨w.heap.size, 0, none⟩) ([] : List Sm).length (xs.length + ys.length)) ([] : List Sm).length (smC [])) := hown0
  have HA : Hid (∀ W, Below w.heap.size w W → SmAt W (.slice a1 xs.length c1) xs) := fun W h => RowAt.below ha h
  have HBB : Hid (∀ W, Below w.heap.size w W → SmAt W (.slice a2 ys.length c2) ys) := fun W h => RowAt.below hb h
  have hwp : IntKind.i64.wrap ((xs.length : Int) + (ys.length : Int)) = (xs.length : Int) + (ys.length : Int) := by rw [IntKind.wrap_i64]; omega
  clear ha hb hown0 hgrow0 hz0 hz1 hz2 hi0
  go_enter Tryz.func92, Tryz.ntmps92
  go_wp2
  go_step3
  go_wp2
  go_step3
  go_wp2
  go_loopw [0, 5, 16] (fun va vo i wr => ∃ (k : Nat) (ps qs : List Sm) (a3 : Option Addr) (c3 : Nat) (a4 : Option Addr) (c4 : Nat), k ≤ ys.length ∧ i = .int .i64 k ∧ va = .slice a3 ps.length c3 ∧ vo = .slice a4 qs.length c4 ∧ Hid (qs ++ togS ps (ys.drop k) = togS xs ys ∧ ps.length + qs.length ≤ xs.length + k ∧ ∀ W, Below w.heap.size w W → SmAt W (.slice a3 ps.length c3) ps) ∧ Hid (wr.ownsRow w.heap.size 42 2 (.slice a4 qs.length c4) qs.length (smC qs)) ∧ Hid (Below w.heap.size w wr)) (fun _ _ i _ => ys.length - (intOf i).toNat)
  case atStart => exact ⟨0, xs, [], a1, c1, _, _, Nat.zero_le _, rfl, rfl, rfl, ⟨rfl, by simp, HA.out⟩, HO0.out, HB0.out⟩
  case round =>
    obtain ⟨k, ps, qs, a3, c3, a4, c4, hk, rfl, rfl, rfl, hinv, hrow, hbel⟩ := hrel
    generalize wr = wo at *
    have hso := hbel.out.size
    by_cases hlt : k < ys.length
    · obtain ⟨b, o, e, hone⟩ := SmAt.one (HBB.out w (Below.refl _ _)) k hlt
      subst e
      obtain ⟨g0, g1⟩ := hone wo hbel.out
      obtain ⟨y, hy⟩ : ∃ y, y = ys[k] := ⟨_, rfl⟩
      have HD : Hid (ys.drop k = y :: ys.drop (k + 1)) := by show _ = _; rw [hy]; exact List.drop_eq_getElem_cons hlt
      rw [← hy] at g0 g1
      clear hy hone
      obtain ⟨y1, y2⟩ := y
      dsimp only at g0 g1
      have hkl : (k : Int) < (ys.length : Int) := by omega
      go_wp2_with fail
      go_loopw [0, 5] (fun va vo wr => ∃ (ps qs : List Sm) (a3 : Option Addr) (c3 : Nat) (a4 : Option Addr) (c4 : Nat), va = .slice a3 ps.length c3 ∧ vo = .slice a4 qs.length c4 ∧ Hid (qs ++ togS ps ((y1, y2) :: ys.drop (k + 1)) = togS xs ys ∧ ps.length + qs.length ≤ xs.length + k ∧ ∀ W, Below w.heap.size w W → SmAt W (.slice a3 ps.length c3) ps) ∧ Hid (wr.ownsRow w.heap.size 42 2 (.slice a4 qs.length c4) qs.length (smC qs)) ∧ Hid (Below w.heap.size w wr ∧ wr.heap[wo.heap.size]? = some (.cells #[.int .i64 y1, .float .f64 y2] 42) ∧ (Value.slice a4 qs.length c4).ownBlock ≠ some wo.heap.size)) (fun va _ _ => match va with | .slice _ n _ => n | _ => 0)
      case atStart => 
        refine ⟨ps, qs, a3, c3, a4, c4, rfl, rfl, ?_, World.ownsRow.alloc hrow.out _, hbel.out.alloc hso _, heap_alloc_new wo _, ?_⟩
        · have h9 := hinv.out
          rw [HD.out] at h9
          exact h9
        · intro hb
          rcases hrow.out.2 with ⟨e, _⟩ | ⟨g, cap, cur, e, -, hh, -⟩
          · rw [e] at hb; cases hb
          · rw [e] at hb
            simp [Value.ownBlock] at hb
            have := (Array.getElem?_eq_some_iff.1 hh).1
            omega
      case round =>
        clear hinv hrow
        obtain ⟨ps, qs, a3, c3, a4, c4, rfl, rfl, hinv, hrow, hmore⟩ := hrel
        have HIN : Hid _ := hinv.out
        have hbel2 : Hid (Below w.heap.size w wr) := hmore.out.1
        have hsw := hbel2.out.size
        have hbox := hmore.out.2.1
        have HNB : Hid ((Value.slice a4 qs.length c4).ownBlock ≠ some wo.heap.size) := hmore.out.2.2
        have HBOX : Hid _ := hbox
        have y0 : wr.cell? ⟨wo.heap.size, 0, none⟩ = some (.int .i64 y1) := by rw [cell_of_heap hbox]; rfl
        have y9 : wr.cell? ⟨wo.heap.size, 1, none⟩ = some (.float .f64 y2) := by rw [cell_of_heap hbox]; rfl
        have hql : qs.length + 1 ≤ 1000000 := by
          have h9 := HIN.out.2.1
          omega
        clear hinv hmore hbox
        cases ps with
        | nil =>
          dsimp only [List.length_nil] at *
          go_wp2_with fail
          go_quiet (fail)
          have hbn := below_drewN (Below.refl wr.heap.size wr) nq
          have HBN : Hid (Below w.heap.size w (wr.drewN nq)) := hbel2.out.trans (hbn.mono hsw)
          have HRN : Hid ((wr.drewN nq).ownsRow w.heap.size 42 2 (.slice a4 qs.length c4) qs.length (smC qs)) := row_below hrow.out hbn
          have hsn : w.heap.size ≤ (wr.drewN nq).heap.size := HBN.out.size
          go_wp2_with (at_builtin; refine wpList_append_row appSm _ rfl _ _ rfl w.heap.size _ qs.length (smC qs) rfl (World.ownsRow.alloc HRN.out _) _ 1 [.int .i64 y1, .float .f64 y2] rfl (RowAt.of_block (cs := #[.int .i64 y1, .float .f64 y2]) (heap_alloc_new (wr.drewN nq) _) rfl (by decide)) (by simp [Value.oneCell']) (by omega) (by simp at hsn ⊢; omega) ?_; intro a5 c5 w5 hr5 hg5 _)
          go_roundw
          case rel =>
            have hb5 : Below w.heap.size w w5 := (HBN.out.alloc hsn _).grown hg5 (by simp at hsn ⊢; omega) (fun j hj => (World.ownsRow.lt HRN.out j hj).1)
            refine ⟨k + 1, [], qs ++ [(y1, y2)], a3, c3, a5, c5, by omega, by go_num, rfl, by simp, ⟨?_, ?_, HIN.out.2.2⟩, ?_, hb5⟩
            · rw [← HIN.out.1, List.append_assoc]
              congr 1
              simp [togS]
            · have h9 := HIN.out.2.1
              simp at h9 ⊢
              omega
            · rw [smC_append, List.length_append]
              exact hr5
          case measure => simp [intOf]; omega
        | cons x pt =>
          obtain ⟨b3, o3, e3, hone⟩ := SmAt.one (HIN.out.2.2 w (Below.refl _ _)) 0 (by simp)
          subst e3
          obtain ⟨x0, x9⟩ := hone wr hbel2.out
          obtain ⟨x1, x2⟩ := x
          simp only [Nat.zero_mul, Nat.add_zero, List.getElem_cons_zero] at x0 x9
          clear hone
          have hpos : (0 : Int) < ((((x1, x2) :: pt).length : Nat) : Int) := by simp
          by_cases hle : x1 ≤ y1
          · by_cases heq : x1 = y1
            · subst heq
              go_wp2_with fail
              go_quiet (fail)
              generalize nq = n1
              go_wp2_with fail
              go_quiet (fail)
              go_wp2_with fail
              have hbn := below_drewN (Below.refl wr.heap.size wr) (n1 + nq)
              refine ⟨⟨k + 1, (x1, x2) :: pt, qs, _, c3, a4, c4, by omega, by go_num, rfl, rfl, ⟨?_, ?_, HIN.out.2.2⟩, row_below hrow.out hbn, hbel2.out.trans (hbn.mono hsw)⟩, by simp [intOf]; omega⟩
              · rw [← HIN.out.1]
                congr 1
                conv => rhs; rw [togS]
                simp
              · have h9 := HIN.out.2.1
                omega
            · have hlt2 : x1 < y1 := by omega
              obtain ⟨_, _, e9, hc3, hc3m⟩ := RowAt.sub (HIN.out.2.2 w (Below.refl _ _))
              cases e9
              have hc4 : ((((x1, x2) :: pt).length : Nat) : Int) ≤ (c3 : Int) := by omega
              have hc5 : (1 : Int) ≤ (c3 : Int) := by simp at hc3; omega
              go_wp2_with fail
              go_quiet (fail)
              generalize nq = n1
              go_wp2_with fail
              go_quiet (fail)
              have hbn := below_drewN (Below.refl wr.heap.size wr) (n1 + nq)
              have HBN : Hid (Below w.heap.size w (wr.drewN (n1 + nq))) := hbel2.out.trans (hbn.mono hsw)
              have HRN : Hid ((wr.drewN (n1 + nq)).ownsRow w.heap.size 42 2 (.slice a4 qs.length c4) qs.length (smC qs)) := row_below hrow.out hbn
              have hsn : w.heap.size ≤ (wr.drewN (n1 + nq)).heap.size := HBN.out.size
              go_wp2_with (at_builtin; refine wpList_append_row appSm _ rfl _ _ rfl w.heap.size _ qs.length (smC qs) rfl (World.ownsRow.alloc HRN.out _) _ 1 [.int .i64 x1, .float .f64 x2] rfl (RowAt.of_block (cs := #[.int .i64 x1, .float .f64 x2]) (heap_alloc_new (wr.drewN (n1 + nq)) _) rfl (by decide)) (by simp [Value.oneCell']) (by omega) (by simp at hsn ⊢; omega) ?_; intro a5 c5 w5 hr5 hg5 hw5)
              have hXb : Below w.heap.size w ((wr.drewN (n1 + nq)).alloc (.cells #[.int .i64 x1, .float .f64 x2] 42)) := HBN.out.alloc hsn _
              have hb5 : Below w.heap.size w w5 := hXb.grown hg5 (by simp at hsn ⊢; omega) (fun j hj => (World.ownsRow.lt HRN.out j hj).1)
              have hlb : wo.heap.size < wr.heap.size := (Array.getElem?_eq_some_iff.1 HBOX.out).1
              refine ⟨⟨pt, qs ++ [(x1, x2)], _, _, a5, c5, rfl, by simp, ⟨?_, ?_, fun W hW => SmAt.tail (HIN.out.2.2 W hW)⟩, ?_, hb5, ?_, ?_⟩, by simp⟩
              · rw [← HIN.out.1, List.append_assoc]
                congr 1
                conv => rhs; rw [togS]
                rw [if_pos (by simpa using hlt2)]
                rfl
              · have h9 := HIN.out.2.1
                simp at h9 ⊢
                omega
              · rw [smC_append, List.length_append]
                exact hr5
              · exact (hg5.block _ (by simp; omega) (fun e => HNB.out e.symm)).trans ((Below.heap_alloc _ _ _ (by simpa using hlb)).trans ((hbn.block _ hlb).trans HBOX.out))
              · have hw6 : (Value.slice a5 (qs ++ [(x1, x2)]).length c5).ownBlock = (Value.slice a5 (qs.length + 1) c5).ownBlock := by simp
                rw [hw6]
                rcases hw5 with e | e
                · rw [e]; exact HNB.out
                · rw [e]
                  intro e2
                  simp at e2
                  omega
          · go_wp2_with fail
            go_quiet (fail)
            have hbn := below_drewN (Below.refl wr.heap.size wr) nq
            have HBN : Hid (Below w.heap.size w (wr.drewN nq)) := hbel2.out.trans (hbn.mono hsw)
            have HRN : Hid ((wr.drewN nq).ownsRow w.heap.size 42 2 (.slice a4 qs.length c4) qs.length (smC qs)) := row_below hrow.out hbn
            have hsn : w.heap.size ≤ (wr.drewN nq).heap.size := HBN.out.size
            go_wp2_with (at_builtin; refine wpList_append_row appSm _ rfl _ _ rfl w.heap.size _ qs.length (smC qs) rfl (World.ownsRow.alloc HRN.out _) _ 1 [.int .i64 y1, .float .f64 y2] rfl (RowAt.of_block (cs := #[.int .i64 y1, .float .f64 y2]) (heap_alloc_new (wr.drewN nq) _) rfl (by decide)) (by simp [Value.oneCell']) (by omega) (by simp at hsn ⊢; omega) ?_; intro a5 c5 w5 hr5 hg5 _)
            go_roundw
            case rel =>
              have hb5 : Below w.heap.size w w5 := (HBN.out.alloc hsn _).grown hg5 (by simp at hsn ⊢; omega) (fun j hj => (World.ownsRow.lt HRN.out j hj).1)
              refine ⟨k + 1, (x1, x2) :: pt, qs ++ [(y1, y2)], some ⟨b3, o3, none⟩, c3, a5, c5, by omega, by go_num, rfl, by simp, ⟨?_, ?_, HIN.out.2.2⟩, ?_, hb5⟩
              · rw [← HIN.out.1, List.append_assoc]
                congr 1
                rw [togS, if_neg (by simpa using (by omega : ¬ x1 < y1)), if_neg (by simpa using (by omega : ¬ x1 = y1))]
                rfl
              · have h9 := HIN.out.2.1
                simp at h9 ⊢
                omega
              · rw [smC_append, List.length_append]
                exact hr5
            case measure => simp [intOf]; omega
    · have hkl : ¬ (k : Int) < (ys.length : Int) := by omega
      have hke : k = ys.length := by omega
      have HIN : Hid _ := hinv.out
      have hql : qs.length + ps.length ≤ 1000000 := by
        have h9 := HIN.out.2.1
        omega
      clear hinv
      go_wp2_with (at_builtin; refine wpList_append_row appSm _ rfl _ _ rfl w.heap.size _ qs.length (smC qs) rfl hrow.out _ ps.length (smC ps) rfl (HIN.out.2.2 _ hbel.out) (smC_one _) hql hso ?_; intro a5 c5 w5 hr5 hg5 hw5)
      go_ret
      have he : togS xs ys = qs ++ ps := by
        rw [← HIN.out.1, hke, List.drop_length]
        congr 1
        unfold togS
        rfl
      have hb5 : Below w.heap.size w w5 := hbel.out.grown hg5 hso (fun j hj => (World.ownsRow.lt hrow.out j hj).1)
      refine ⟨a5, c5, ?_, ?_, hb5⟩
      · rw [he, List.length_append]
        rfl
      · rw [he, List.length_append, smC_append]
        exact hr5

end Go.Proofs.YtjnjmpfldbkciaaGreat
