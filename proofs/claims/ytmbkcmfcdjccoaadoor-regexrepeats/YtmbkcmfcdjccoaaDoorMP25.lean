/- Texts that belong together. -/
import Derived.Test.YtmbkcmfcdjccoaaDoorMP23
import Derived.Test.YtmbkcmfcdjccoaaDoorMP21
/- The reader of an expression: rows of parts, walked. -/
namespace Go.Proofs.YtmbkcmfcdjccoaaDoor
open Go.RowKit Go.Maps

section
variable {w : World} {U B : Nat} {s : ByteArray} {f : FuncId} {j g : Nat}
theorem RwS.drew {W : World} {k cc : Nat} {va : Option Addr} {acc : List Nd} {ps : List Nat} (H : RwS w U s g W j va k cc acc ps) : RwS w U s g W.drew j va k cc acc ps := H.drewN 1
theorem RwS.env {W : World} {k cc : Nat} {va : Option Addr} {acc : List Nd} {ps : List Nat} (H : RwS w U s g W j va k cc acc ps) (hE : Env8 w B) (hB : B ≤ U) (hU : U < w.heap.size) : Env8 W B := hE.kept H.rs.kept hB (by omega)
theorem PtC.rowno {q : Nat} (hC : PtC f s j g (.no q)) (hE : Env8 w B) (hB : B ≤ U) (hU : U < w.heap.size) : Hid (∀ W va k cc acc ps, RwS w U s g W j va k cc acc ps → Calls Tryd.prog f #[.pointer (some ⟨U, 0, none⟩)] W fun e w' => ∃ x, e = .returned (.tuple #[.pointer x, .bool false]) ∧ ∃ g, RdS w U s g w' q) := fun W va k cc acc ps H =>
  (hC U B W H.rs.rd (H.env hE hB hU) hB).mono (fun e w' h => by
    obtain ⟨x, he, g', h2⟩ := h
    exact ⟨x, he, g', H.rs.onto h2⟩)
theorem PtC.rowyes {x : Nd} {p g2 : Nat} (hC : PtC f s j g (.yes x p g2)) (hE : Env8 w B) (hB : B ≤ U) (hU : U < w.heap.size) (hjp : j ≤ p) : Hid (∀ W va k cc acc ps, RwS w U s g W j va k cc acc ps → Calls Tryd.prog f #[.pointer (some ⟨U, 0, none⟩)] W fun e w' => ∃ b, e = .returned (.tuple #[.pointer (some ⟨b, 0, none⟩), .bool true]) ∧ RwS w U s g2 w' p va k cc acc ps ∧ NdAt w' (fun q => Fresh (w.heap.size + 1) w'.heap.size q ∧ (Value.slice va k cc).ownBlock ≠ some q) x b) := fun W va k cc acc ps H =>
  (hC U B W H.rs.rd (H.env hE hB hU) hB).mono (fun e w' h => by
    obtain ⟨a, he, b, rfl, h2, h3⟩ := h
    refine ⟨b, he, H.to hU h2.rd h2.kept hjp, NdAt.to (fun q hq => ⟨⟨by have := hq.1; have := H.lt; omega, hq.2⟩, fun e => ?_⟩) (fun q hq => rfl) _ _ h3⟩
    have h9 := (H.row.lt q e).2
    have := hq.1
    omega)
/-- What is to be seen behind the append. -/
theorem RwS.seen {W W5 : World} {k cc : Nat} {va : Option Addr} {acc : List Nd} {ps : List Nat} {o : Obj} {x : Nd} {b : Nat} (H : RwS w U s g W j va k cc acc ps) (hx : NdAt W (fun b' => Fresh (w.heap.size + 1) W.heap.size b' ∧ (Value.slice va k cc).ownBlock ≠ some b') x b) (hg : (W.alloc o).grownBy W5 (Value.slice va k cc).ownBlock) :
    W5.cell? ⟨w.heap.size, 2, none⟩ = some (.slice va k cc) ∧ W5.frozen? ⟨w.heap.size, 2, none⟩ = false ∧ W5.frozen? ⟨w.heap.size, 7, none⟩ = false ∧ W5.cell? ⟨w.heap.size, 7, none⟩ = some (.int .i64 (sizesN acc 0)) ∧ W5.cell? ⟨b, 7, none⟩ = some (.int .i64 (sizeN x)) ∧ b ≠ w.heap.size := by
  have hl := H.lt
  have hs1 : (W.alloc o).heap.size = W.heap.size + 1 := by simp
  have hw5 : ∀ q, q < W.heap.size → (Value.slice va k cc).ownBlock ≠ some q → W5.heap[q]? = W.heap[q]? := fun q hq hn => (hg.block q (by omega) (fun e => hn e.symm)).trans (Below.heap_alloc _ _ _ (by omega))
  have hn5 : NodeB W5 w.heap.size 3 (.slice none 0 0) (.slice va k cc) 0 0 0 false (sizesN acc 0) := (hw5 _ hl (fun e => by have := (H.row.lt _ e).1; omega)).trans H.node
  have hb := hx.foot
  refine ⟨by rw [cell_of_heap hn5]; rfl, frozen_of_heap hn5, frozen_of_heap hn5, by rw [cell_of_heap hn5]; rfl, (World.cell?_of_block (hw5 b hb.1.2 hb.2)).trans hx.size, by have := hb.1.1; omega⟩
end
theorem lonePtr (w : World) (b : Nat) {m : Nat} (h : w.heap.size = m) : RowAt (w.alloc (.cells #[.pointer (some ⟨b, 0, none⟩)] 59)) (.slice (some ⟨m, 0, none⟩) 1 1) 1 1 [ptrV b] := by
  subst h
  exact RowAt.of_block (cs := #[.pointer (some ⟨b, 0, none⟩)]) (heap_alloc_new w _) rfl (by decide)
theorem ptrs_one (b : Nat) : ∀ u ∈ [ptrV b], u.oneCell' = true := fun u hu => by rw [List.mem_singleton.1 hu]; rfl

set_option maxRecDepth 100000 in
set_option maxHeartbeats 2000000 in
theorem row_next {s : ByteArray} {n : Nat} (hP : ∀ m, m ≤ n → ∀ i g, i < s.size → g ≤ i → 5 * (s.size - i) ≤ m → PtC 45 s i g (partR s m i g)) (hs : s.size ≤ 10000) :
    ∀ i g, i ≤ s.size → g ≤ i → 5 * (s.size - i) + 1 ≤ n + 1 → PtC 32 s i g (rowR s (n + 1) i g []) := by
  intro i g hi hg hn U B w h hE hB
  have hU := h.lt
  have hsm : s.size ≤ 1000000 := by omega
  obtain ⟨R, hR⟩ : ∃ R, R = rowR s (n + 1) i g [] := ⟨_, rfl⟩
  rw [← hR]
  have HR : Hid (rowR s (n + 1) i g [] = R) := hR.symm
  have HE : Hid (Env8 w B ∧ B ≤ U ∧ U < w.heap.size) := ⟨hE, hB, hU⟩
  have HP : Hid (∀ m, m ≤ n → ∀ i g, i < s.size → g ≤ i → 5 * (s.size - i) ≤ m → PtC 45 s i g (partR s m i g)) := hP
  have HS0 : Hid (RwS w U s g (w.alloc (.cells #[.int .i64 3, .slice none 0 0, .slice none 0 0, .int .i64 0, .int .i64 0, .int .i64 0, .bool false, .int .i64 0] 65)) i none 0 0 [] []) := RwS.start h
  clear h hE hR hP
  go_enter Tryd.func32, Tryd.ntmps32
  go_wp2
  go_loopw [] (fun wr => ∃ (m j g' k cc : Nat) (va : Option Addr) (acc : List Nd) (ps : List Nat), m ≤ n ∧ j ≤ s.size ∧ g' ≤ j ∧ 5 * (s.size - j) + 1 ≤ m + 1 ∧ Hid (RwS w U s g' wr j va k cc acc ps) ∧ Hid (rowR s (m + 1) j g' acc = R)) (fun wr => s.size + 1 - rdJ wr U)
  case atStart => exact ⟨n, i, g, 0, 0, none, [], [], Nat.le_refl _, hi, hg, hn, HS0, HR⟩
  case round =>
    clear HR HS0 hn hi hg
    obtain ⟨m, j, g', k, cc, va, acc, ps, hm, hj, hg, hf, HW, HR⟩ := hrel
    have HJ : Hid (rdJ wr U = j) := HW.out.rs.rd.j
    have c0 := HW.out.rs.rd.c0
    have c1 := HW.out.rs.rd.c1
    rw [row_one] at HR
    have HQ0 : Hid (∀ B1 B2 : Bool, seesB s j 124 = B1 → seesB s j 41 = B2 → Hid (∀ W (c : Int) (b : Bool), (c = 124 ∧ b = B1 ∨ c = 41 ∧ b = B2) → (∃ q, W = wr.drewN q) → Calls Tryd.prog 44 #[.pointer (some ⟨U, 0, none⟩), .int .u8 c] W fun e w' => e = .returned (.bool b) ∧ ∃ q, w' = W.drewN q)) := fun B1 B2 h1 h2 W c b hc hW => by
      rcases hc with ⟨rfl, rfl⟩ | ⟨rfl, rfl⟩
      · rw [← h1]; exact (sees_q 124 HW.out.rs.rd hsm).out W hW
      · rw [← h2]; exact (sees_q 41 HW.out.rs.rd hsm).out W hW
    by_cases hlt : j < s.size
    · have hd : decide ((j : Int) < s.size) = true := decide_eq_true (by omega)
      cases h124 : seesB s j 124 with
      | true =>
        have HQ := HQ0.out true _ h124 rfl
        rw [if_pos (.inr (.inl h124))] at HR
        have hR := HR.out
        subst hR
        clear HQ0 HR h124
        go_wp2_with fail
        go_quiet (first | (go_at_call 44; first | exact Calls.quiet_of (HQ.out _ _ _ (Or.inl ⟨rfl, rfl⟩) ⟨_, rfl⟩) | exact Calls.quiet_of (HQ.out _ _ _ (Or.inr ⟨rfl, rfl⟩) ⟨_, rfl⟩)))
        go_wp2
        go_ret2
        exact ⟨_, rfl, _, rfl, HW.out.rs.drewN _, (HW.out.drewN _).nd⟩
      | false =>
        cases h41 : seesB s j 41 with
        | true =>
          have HQ := HQ0.out false true h124 h41
          rw [if_pos (.inr (.inr h41))] at HR
          have hR := HR.out
          subst hR
          clear HR h124 h41 HQ0
          go_wp2_with fail
          go_quiet (first | (go_at_call 44; first | exact Calls.quiet_of (HQ.out _ _ _ (Or.inl ⟨rfl, rfl⟩) ⟨_, rfl⟩) | exact Calls.quiet_of (HQ.out _ _ _ (Or.inr ⟨rfl, rfl⟩) ⟨_, rfl⟩)))
          go_wp2
          go_ret2
          exact ⟨_, rfl, _, rfl, HW.out.rs.drewN _, (HW.out.drewN _).nd⟩
        | false =>
          have HQ := HQ0.out false false h124 h41
          clear HQ0
          rw [if_neg (by rintro (h9 | h9 | h9) <;> first | omega | simp_all)] at HR
          clear h124 h41
          have hpc := HP.out m hm j g' hlt hg (by omega)
          have hok := (allOk s m).part j g' hlt hg
          cases hpr : partR s m j g' with
          | no q =>
            rw [hpr] at hpc HR
            have HPT := hpc.rowno HE.out.1 HE.out.2.1 HE.out.2.2
            have hR : Pt.no q = R := HR.out
            subst hR
            clear HR hpc hok hpr
            go_wp2_with fail
            go_quiet (first | (go_at_call 44; first | exact Calls.quiet_of (HQ.out _ _ _ (Or.inl ⟨rfl, rfl⟩) ⟨_, rfl⟩) | exact Calls.quiet_of (HQ.out _ _ _ (Or.inr ⟨rfl, rfl⟩) ⟨_, rfl⟩)))
            go_wp2_with (go_at_call 45; refine (HPT.out _ _ _ _ _ _ (HW.out.drewN _)).mono ?_; clear HPT; rintro e w2 ⟨x, rfl, hl⟩; have HQ : Hid (∃ g, RdS w U s g w2 q) := hl; clear hl)
            go_ret2
            exact ⟨_, rfl, HQ.out⟩
          | yes x p g2 =>
            rw [hpr] at hpc HR hok
            obtain ⟨o1, o2, o3, o4⟩ := hok
            have HPT := hpc.rowyes HE.out.1 HE.out.2.1 HE.out.2.2 (by omega)
            obtain ⟨m, rfl⟩ : ∃ m', m = m' + 1 := ⟨m - 1, by omega⟩
            have HR2 : Hid (rowR s (m + 1) p g2 (acc ++ [x]) = R) := HR.out
            have hkj := HW.out.few
            have hz2 := sizeN_top x
            have hz3 := sizesN_top acc 0 (by omega)
            have hz4 := HW.out.pos
            have HC := capped_is
            have hx0 := wf_size x o4
            have HX0 : Hid (0 ≤ sizeN x) := hx0
            clear HR hpc hpr
            go_wp2_with fail
            go_quiet (first | (go_at_call 44; first | exact Calls.quiet_of (HQ.out _ _ _ (Or.inl ⟨rfl, rfl⟩) ⟨_, rfl⟩) | exact Calls.quiet_of (HQ.out _ _ _ (Or.inr ⟨rfl, rfl⟩) ⟨_, rfl⟩)))
            go_wp2_with (first
              | (go_at_call 45; refine (HPT.out _ _ _ _ _ _ (HW.out.drewN _)).mono ?_; clear HPT HW c0 c1 HQ; rintro e w2 ⟨b, rfl, h1, h2⟩; have n2 := h1.n2; have hbl : b < w2.heap.size := h2.foot.1.2; have HX : Hid (RwS w U s g2 w2 p va k cc acc ps ∧ NdAt w2 (fun q => Fresh (w.heap.size + 1) w2.heap.size q ∧ (Value.slice va k cc).ownBlock ≠ some q) x b) := ⟨h1, h2⟩; clear h1 h2)
              | (at_builtin; refine wpList_append_row appNd _ rfl _ _ rfl (w.heap.size + 1) (.slice va k cc) k (ps.map ptrV) rfl (row_below HX.out.1.row ((Below.refl _ _).alloc (Nat.le_refl _) _)) _ 1 [ptrV b] rfl (lonePtr _ _ rfl) (ptrs_one _) (by omega) (by have := HX.out.1.lt; simp; omega) ?_; intro a5 c5 w5 hr5 hg5 hw5; obtain ⟨m2, f2, f7, n7, z7, hbne⟩ := HX.out.1.seen HX.out.2 hg5; have HF : Hid (∀ v2 v7, v2 = Value.slice a5 (k + 1) c5 → v7 = Value.int .i64 (capN (sizesN acc 0 + sizeN x)) → RwS w U s g2 ((w5.setCell ⟨w.heap.size, 2, none⟩ v2).setCell ⟨w.heap.size, 7, none⟩ v7) p a5 (k + 1) c5 (acc ++ [x]) (ps ++ [b])) := (fun v2 v7 h2 h7 => HX.out.1.push HE.out.2.2 HX.out.2 hr5 hg5 hw5 (by omega) HX0.out h2 h7); clear hr5 hg5 hw5 n2 HX))
            generalize sizeN x = Z at *
            generalize sizesN acc 0 = Y at *
            go_region_with (go_at_call 34; refine (HC.out _ _ (Y + Z) (by first | rfl | (simp only [IntKind.wrap_i64]; omega)) (by omega) (by omega)).mono ?_; rintro e w6 ⟨rfl, rfl⟩)
            all_goals
              go_wp2
              go_roundw
              case rel => exact ⟨m, p, g2, k + 1, c5, a5, acc ++ [x], ps ++ [b], by omega, o2, o3, by omega, ((HF.out _ _ rfl rfl).drewN _), HR2⟩
              case measure => rw [HJ.out, (RwS.drew (HF.out _ _ rfl rfl)).rs.rd.j]; omega
    · have hd : decide ((j : Int) < s.size) = false := decide_eq_false (by omega)
      rw [if_pos (.inl (by omega))] at HR
      have hR := HR.out
      subst hR
      clear HQ0 HR
      go_wp2_with fail
      go_quiet (fail)
      go_wp2
      go_ret2
      exact ⟨_, rfl, _, rfl, HW.out.rs.drewN _, (HW.out.drewN _).nd⟩
end Go.Proofs.YtmbkcmfcdjccoaaDoor

/- The reader of an expression: all of it. -/
namespace Go.Proofs.YtmbkcmfcdjccoaaDoor
open Go.RowKit Go.Maps

theorem allC {s : ByteArray} (hs : s.size ≤ 10000) (n : Nat) : AllC s n := by
  induction n using Nat.strongRecOn with
  | _ n ih =>
    cases n with
    | zero =>
      refine ⟨fun i g _ _ hn => ?_, fun i g _ _ hn => ?_, fun i g hi _ hn => ?_, fun i g hi _ hn => ?_, fun i g _ _ hn => ?_⟩
      all_goals exfalso
      all_goals omega
    | succ n =>
      have h := ih n (Nat.lt_succ_self _)
      exact ⟨either_next h.row h.either hs, row_next (fun m hm => (ih m (Nat.lt_succ_of_le hm)).part) hs, part_next (fun i g hi hg hn => h.thing i g hi hg hn) hs, thing_next h.bracket hs, bracket_next h.either hs⟩
/-- An expression is read, from its beginning on. -/
theorem either_any (U B : Nat) (s : ByteArray) (w : World) (h : RdAt w U s 0 0) (hE : Env8 w B) (hB : B ≤ U) (hs : s.size ≤ 10000) :
    Calls Tryd.prog 25 #[.pointer (some ⟨U, 0, none⟩)] w fun e w' => PtP w U s (eitherR s (5 * s.size + 2) 0 0) e w' :=
  (allC hs (5 * s.size + 2)).either 0 0 (Nat.zero_le _) (Nat.zero_le _) (by omega) U B w h hE hB
end Go.Proofs.YtmbkcmfcdjccoaaDoor
