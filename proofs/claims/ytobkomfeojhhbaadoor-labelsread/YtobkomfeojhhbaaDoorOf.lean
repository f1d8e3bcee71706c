/- The document reads a set's bytes. -/
import Derived.Test.YtobkomfeojhhbaaDoorOe
import Derived.Test.YtobkomfeojhhbaaDoorNm
namespace Go.Proofs.YtobkomfeojhhbaaDoor
open Go.RowKit Go.Maps

theorem drop_two (bs : List UInt8) (p : Nat) (hp : p + 2 ≤ bs.length) : bs.drop p = bs[p] :: bs[p + 1] :: bs.drop (p + 2) := by
  rw [List.drop_eq_getElem_cons (by omega), List.drop_eq_getElem_cons (i := p + 1) (by omega)]
theorem cutT_at (bs : List UInt8) (p : Nat) (hp : p + 2 ≤ bs.length) (N : Nat) (hN : N = bs[p].toNat * 256 + bs[p + 1].toNat) :
    cutT (bs.drop p) = if N ≤ bs.length - (p + 2) then some (⟨((bs.drop (p + 2)).take N).toArray⟩, bs.drop (p + 2 + N)) else none := by
  rw [drop_two bs p hp]
  unfold cutT
  dsimp only
  rw [← hN, List.length_drop, List.drop_drop]
theorem cutT_end (bs : List UInt8) (p : Nat) (hp : ¬ p + 2 ≤ bs.length) : cutT (bs.drop p) = none := by
  have hl : (bs.drop p).length < 2 := by rw [List.length_drop]; omega
  match bs.drop p, hl with
  | [], _ => rfl
  | [x], _ => rfl

theorem readR_parts (bs : List UInt8) (h : 0 < bs.length) : (readN bs[0].toNat (bs.drop 1) = none → readR bs = ([], 8)) ∧ ∀ rest l, readN bs[0].toNat (bs.drop 1) = some (l, rest) → readR bs = if (rest.isEmpty && rightS l) = true then (l, 0) else ([], 8) := by
  match bs, h with
  | c :: r, _ => exact ⟨fun h9 => readR_none h9, fun rest l h9 => readR_some h9⟩

/-- Two texts in a block of their own. -/
structure PairAt (wr W : World) (A B : ByteArray) : Prop where
  bel : Below wr.heap.size wr W
  blk : W.heap[wr.heap.size]? = some (.cells #[.string A, .string B] 78 (0, 0))
theorem PairAt.new (wr : World) (A B : ByteArray) : PairAt wr (wr.alloc (.cells #[.string A, .string B] 78)) A B := ⟨(Below.refl _ _).alloc (Nat.le_refl _) _, heap_alloc_new wr _⟩
theorem PairAt.cells {wr W : World} {A B : ByteArray} (h : PairAt wr W A B) : W.cell? ⟨wr.heap.size, 0, none⟩ = some (.string A) ∧ W.cell? ⟨wr.heap.size, 1, none⟩ = some (.string B) ∧ (∀ i, W.frozen? ⟨wr.heap.size, i, none⟩ = false) :=
  ⟨World.news_of_block h.blk 0 _ rfl, World.news_of_block h.blk 1 _ rfl, fun i => by simp [World.frozen?, h.blk]⟩
theorem PairAt.drewN {wr W : World} {A B : ByteArray} (h : PairAt wr W A B) (q : Nat) : PairAt wr (W.drewN q) A B := ⟨below_drewN h.bel q, h.blk⟩
theorem PairAt.set0 {wr W : World} {A B : ByteArray} (h : PairAt wr W A B) (x : ByteArray) : PairAt wr (W.setCell ⟨wr.heap.size, 0, none⟩ (.string x)) x B :=
  ⟨h.bel.setCell (p := ⟨wr.heap.size, 0, none⟩) (Nat.le_refl _) _, by have := heap_setCell_same (i := 0) h.blk (.string x); simpa using this⟩
theorem PairAt.set1 {wr W : World} {A B : ByteArray} (h : PairAt wr W A B) (x : ByteArray) : PairAt wr (W.setCell ⟨wr.heap.size, 1, none⟩ (.string x)) A x :=
  ⟨h.bel.setCell (p := ⟨wr.heap.size, 1, none⟩) (Nat.le_refl _) _, by have := heap_setCell_same (i := 1) h.blk (.string x); simpa using this⟩

set_option maxRecDepth 100000 in
set_option maxHeartbeats 4000000 in
theorem refRead_any (v : Value) (bs : List UInt8) (w : World) (h : BytesAt w v bs) (hl : bs.length ≤ 1000000) :
    Calls Tryd.prog 37 #[v] w fun e w' => ∃ v', e = .returned (.tuple #[v', .int .i64 (readR bs).2]) ∧ w'.ownsRow w.heap.size 51 2 v' (readR bs).1.length (lbCells (readR bs).1) ∧ Below w.heap.size w w' := by
  by_cases hne : bs = []
  · subst hne
    obtain ⟨a, c, rfl, -, -⟩ := id h
    clear h
    go_enter Tryd.func37, Tryd.ntmps37
    go_wp2
    go_ret2
    exact ⟨.slice none 0 0, rfl, World.ownsRow_nil _ _ _ _, Below.refl _ _⟩
  · have hpos : 0 < bs.length := List.length_pos_iff.2 hne
    obtain ⟨ad, c, rfl, hlc, -⟩ := id h
    obtain ⟨bk, o, rfl, h0⟩ := h.one 0 hpos
    have hc0 := bs[0].toNat_lt
    have hmx : c ≤ 9223372036854775807 := by have h1 := hlc; unfold maxLen at h1; omega
    have HO0 : Hid (∀ W, Below w.heap.size w W → W.cell? ⟨bk, o, none⟩ = some (.int .u8 bs[0].toNat)) := fun W hW => by have := h0 W hW; rw [Nat.add_zero] at this; exact this
    have HO : Hid (∀ p (hp : p < bs.length) W, Below w.heap.size w W → W.cell? ⟨bk, o + p, none⟩ = some (.int .u8 bs[p].toNat)) := fun p hp W hW => by
      obtain ⟨b', o', e, h9⟩ := h.one p hp
      cases e
      exact h9 W hW
    have HSTR : Hid (∀ p N W, p + N ≤ bs.length → Below w.heap.size w W → (convert 38 9 (.slice (if c = p then some ⟨bk, o, none⟩ else some ⟨bk, o + p, none⟩) N (c - p))).run Tryd.prog W = .ok (.string ⟨((bs.drop p).take N).toArray⟩) W) := fun p N W hpN hW => ((h.below hW).rest p (by omega) |>.take N (by omega)).str
    have HNONE : Hid (readN bs[0].toNat (bs.drop 1) = none → readR bs = ([], 8)) := (readR_parts bs hpos).1
    have HSOME : Hid (∀ rest l, readN bs[0].toNat (bs.drop 1) = some (l, rest) → readR bs = if (rest.isEmpty && rightS l) = true then (l, 0) else ([], 8)) := (readR_parts bs hpos).2
    generalize bs[0].toNat = cN at *
    generalize readR bs = R at *
    have hlz : ((bs.length : Int) == 0) = false := by rw [beq_eq_false_iff_ne]; omega
    clear h h0 hne
    go_enter Tryd.func37, Tryd.ntmps37
    go_wp2
    go_loopw [4, 5, 6] (fun tp vs i wr => ∃ (j p : Nat) (l : List Lb), j ≤ cN ∧ p ≤ bs.length ∧ Hid (l.length = j) ∧ i = .int .i64 j ∧ tp = .int .i64 p ∧ Hid (readN j (bs.drop 1) = some (l, bs.drop p)) ∧ Hid (wr.ownsRow w.heap.size 51 2 vs l.length (lbCells l)) ∧ Hid (Below w.heap.size w wr)) (fun _ _ i _ => cN - (intOf i).toNat)
    case atStart => exact ⟨0, 1, [], Nat.zero_le _, by omega, rfl, rfl, rfl, rfl, World.ownsRow_nil _ _ _ _, Below.refl _ _⟩
    case round =>
      obtain ⟨j, p, l, hj, hp, hll, rfl, rfl, hrd, hrow, hbel⟩ := hrel
      rename World => wo
      have g0 := HO0.out wo hbel.out
      obtain ⟨av, cv, hvv⟩ := slice_of_row hrow.out
      subst hvv
      have hposi : (0 : Int) < (bs.length : Int) := by omega
      by_cases hlt : j < cN
      · have hjl : (j : Int) < (cN : Int) := by omega
        let St : Nat → Nat → ByteArray → ByteArray → Prop := fun k p1 A B => (k = 0 ∧ p1 = p ∧ A = ⟨#[]⟩ ∧ B = ⟨#[]⟩) ∨ (k = 1 ∧ cutT (bs.drop p) = some (A, bs.drop p1) ∧ B = ⟨#[]⟩) ∨ (k = 2 ∧ cut2 (bs.drop p) = some ((A, B), bs.drop p1))
        have hst0 : St 0 p ⟨#[]⟩ ⟨#[]⟩ := Or.inl ⟨rfl, rfl, rfl, rfl⟩
        have hstc : ∀ k p1 A B, St k p1 A B → (k = 0 ∧ p1 = p ∧ A = ⟨#[]⟩ ∧ B = ⟨#[]⟩) ∨ (k = 1 ∧ cutT (bs.drop p) = some (A, bs.drop p1) ∧ B = ⟨#[]⟩) ∨ (k = 2 ∧ cut2 (bs.drop p) = some ((A, B), bs.drop p1)) := fun _ _ _ _ h => h
        have hsti : ∀ k p1 A B, (k = 0 ∧ p1 = p ∧ A = ⟨#[]⟩ ∧ B = ⟨#[]⟩) ∨ (k = 1 ∧ cutT (bs.drop p) = some (A, bs.drop p1) ∧ B = ⟨#[]⟩) ∨ (k = 2 ∧ cut2 (bs.drop p) = some ((A, B), bs.drop p1)) → St k p1 A B := fun _ _ _ _ h => h
        clear_value St
        have HST0 : Hid (St 0 p ⟨#[]⟩ ⟨#[]⟩) := hst0
        have HSTC : Hid (∀ k p1 A B, St k p1 A B → (k = 0 ∧ p1 = p ∧ A = ⟨#[]⟩ ∧ B = ⟨#[]⟩) ∨ (k = 1 ∧ cutT (bs.drop p) = some (A, bs.drop p1) ∧ B = ⟨#[]⟩) ∨ (k = 2 ∧ cut2 (bs.drop p) = some ((A, B), bs.drop p1))) := hstc
        have HSTI : Hid (∀ k p1 A B, (k = 0 ∧ p1 = p ∧ A = ⟨#[]⟩ ∧ B = ⟨#[]⟩) ∨ (k = 1 ∧ cutT (bs.drop p) = some (A, bs.drop p1) ∧ B = ⟨#[]⟩) ∨ (k = 2 ∧ cut2 (bs.drop p) = some ((A, B), bs.drop p1)) → St k p1 A B) := hsti
        clear hst0 hstc hsti
        have HPN : Hid (PairAt wo (wo.alloc (.cells #[.string ⟨#[]⟩, .string ⟨#[]⟩] 78)) ⟨#[]⟩ ⟨#[]⟩) := PairAt.new wo _ _
        go_wp2
        go_loopw [4, 8] (fun tp kk wi => ∃ (k p1 : Nat) (A B : ByteArray), k ≤ 2 ∧ p1 ≤ bs.length ∧ kk = .int .i64 k ∧ tp = .int .i64 p1 ∧ Hid (PairAt wo wi A B) ∧ Hid (St k p1 A B)) (fun _ kk _ => 2 - (intOf kk).toNat)
        case atStart => exact ⟨0, p, ⟨#[]⟩, ⟨#[]⟩, by omega, hp, rfl, rfl, HPN, HST0⟩
        case round =>
          clear HPN HST0
          obtain ⟨k, p1, A, B, hk, hp1, rfl, rfl, HP, hst⟩ := hrel
          have hbi : Below w.heap.size w wr := hbel.out.trans (HP.out.bel.mono hbel.out.size)
          obtain ⟨q0, q1, f0⟩ := HP.out.cells
          rcases HSTC.out _ _ _ _ hst.out with h0 | h1 | h2
          all_goals clear hst
          · obtain ⟨rfl, rfl, rfl, rfl⟩ := h0
            by_cases hs : p1 + 2 ≤ bs.length
            · obtain ⟨N, hN⟩ : ∃ N, N = bs[p1].toNat * 256 + bs[p1 + 1].toNat := ⟨_, rfl⟩
              have hct := cutT_at bs p1 hs N hN
              have ha := bs[p1].toNat_lt
              have hb := bs[p1 + 1].toNat_lt
              have q2 := HO.out p1 (by omega) _ hbi
              have q3 := HO.out (p1 + 1) (by omega) _ hbi
              have q3' : wr.cell? ⟨bk, o + p1 + 1, none⟩ = some (.int .u8 bs[p1 + 1].toNat) := q3
              have hNi : (bs[p1].toNat : Int) * 256 + (bs[p1 + 1].toNat : Int) = (N : Int) := by omega
              have hN6 : N < 65536 := by omega
              clear hN
              generalize bs[p1].toNat = xa at *
              generalize bs[p1 + 1].toNat = xb at *
              have hsi : ¬ (bs.length : Int) < (p1 : Int) + 2 := by omega
              have hpi : (p1 : Int) < (bs.length : Int) := by omega
              have hpi1 : (p1 : Int) + 1 < (bs.length : Int) := by omega
              by_cases hn : N ≤ bs.length - (p1 + 2)
              · rw [if_pos hn] at hct
                have hcs : cutT (bs.drop p1) = some (⟨((bs.drop (p1 + 2)).take N).toArray⟩, bs.drop (p1 + 2 + N)) := hct
                have hconv := fun q => HSTR.out (p1 + 2) N (wr.drewN q) (by omega) (below_drewN hbi q)
                obtain ⟨X, hX⟩ : ∃ X : ByteArray, X = ⟨((bs.drop (p1 + 2)).take N).toArray⟩ := ⟨_, rfl⟩
                rw [← hX] at hcs hconv
                clear hct hX
                have HS' : Hid (St 1 (p1 + 2 + N) X ⟨#[]⟩) := HSTI.out _ _ _ _ (Or.inr (Or.inl ⟨rfl, hcs, rfl⟩))
                have hni : ¬ (bs.length : Int) - ((p1 : Int) + 2) < (N : Int) := by omega
                have hni2 : (p1 : Int) + 2 + (N : Int) ≤ (c : Int) := by omega
                have hni3 : (p1 : Int) + 2 ≤ (c : Int) := by omega
                clear hcs
                go_wp2
                go_quiet (fail)
                have HP' : Hid (PairAt wo ((wr.drewN nq).setCell ⟨wo.heap.size, 0, none⟩ (.string X)) X ⟨#[]⟩) := (HP.out.drewN nq).set0 X
                go_wp2
                all_goals
                  go_roundw
                  case rel => exact ⟨1, p1 + 2 + N, X, ⟨#[]⟩, by omega, by omega, by go_num, by go_num, HP'.out, HS'⟩
                  case measure => simp [intOf]
              · rw [if_neg hn] at hct
                have hcn : cutT (bs.drop p1) = none := hct
                have HR : Hid (R = ([], 8)) := HNONE.out (readN_fails hrd.out (cut2_none1 hcn) hlt)
                have hni : (bs.length : Int) - ((p1 : Int) + 2) < (N : Int) := by omega
                clear hct hcn
                go_wp2
                go_quiet (fail)
                go_wp2
                go_ret2
                refine ⟨.slice none 0 0, by rw [HR.out]; rfl, ?_, below_drewN hbi _⟩
                rw [HR.out]
                exact World.ownsRow_nil _ _ _ _
            · have hcn := cutT_end bs p1 hs
              have HR : Hid (R = ([], 8)) := HNONE.out (readN_fails hrd.out (cut2_none1 hcn) hlt)
              have hsi : (bs.length : Int) < (p1 : Int) + 2 := by omega
              clear hcn
              go_wp2
              go_ret2
              refine ⟨.slice none 0 0, by rw [HR.out]; rfl, ?_, hbi⟩
              rw [HR.out]
              exact World.ownsRow_nil _ _ _ _
          · obtain ⟨rfl, hA, rfl⟩ := h1
            by_cases hs : p1 + 2 ≤ bs.length
            · obtain ⟨N, hN⟩ : ∃ N, N = bs[p1].toNat * 256 + bs[p1 + 1].toNat := ⟨_, rfl⟩
              have hct := cutT_at bs p1 hs N hN
              have ha := bs[p1].toNat_lt
              have hb := bs[p1 + 1].toNat_lt
              have q2 := HO.out p1 (by omega) _ hbi
              have q3 := HO.out (p1 + 1) (by omega) _ hbi
              have q3' : wr.cell? ⟨bk, o + p1 + 1, none⟩ = some (.int .u8 bs[p1 + 1].toNat) := q3
              have hNi : (bs[p1].toNat : Int) * 256 + (bs[p1 + 1].toNat : Int) = (N : Int) := by omega
              have hN6 : N < 65536 := by omega
              clear hN
              generalize bs[p1].toNat = xa at *
              generalize bs[p1 + 1].toNat = xb at *
              have hsi : ¬ (bs.length : Int) < (p1 : Int) + 2 := by omega
              have hpi : (p1 : Int) < (bs.length : Int) := by omega
              have hpi1 : (p1 : Int) + 1 < (bs.length : Int) := by omega
              by_cases hn : N ≤ bs.length - (p1 + 2)
              · rw [if_pos hn] at hct
                have hcs : cutT (bs.drop p1) = some (⟨((bs.drop (p1 + 2)).take N).toArray⟩, bs.drop (p1 + 2 + N)) := hct
                have hconv := fun q => HSTR.out (p1 + 2) N (wr.drewN q) (by omega) (below_drewN hbi q)
                obtain ⟨X, hX⟩ : ∃ X : ByteArray, X = ⟨((bs.drop (p1 + 2)).take N).toArray⟩ := ⟨_, rfl⟩
                rw [← hX] at hcs hconv
                clear hct hX
                have HS' : Hid (St 2 (p1 + 2 + N) A X) := HSTI.out _ _ _ _ (Or.inr (Or.inr ⟨rfl, cut2_both hA hcs⟩))
                have hni : ¬ (bs.length : Int) - ((p1 : Int) + 2) < (N : Int) := by omega
                have hni2 : (p1 : Int) + 2 + (N : Int) ≤ (c : Int) := by omega
                have hni3 : (p1 : Int) + 2 ≤ (c : Int) := by omega
                clear hcs
                go_wp2
                go_quiet (fail)
                have HP' : Hid (PairAt wo ((wr.drewN nq).setCell ⟨wo.heap.size, 1, none⟩ (.string X)) A X) := (HP.out.drewN nq).set1 X
                go_wp2
                all_goals
                  go_roundw
                  case rel => exact ⟨2, p1 + 2 + N, A, X, by omega, by omega, by go_num, by go_num, HP'.out, HS'⟩
                  case measure => simp [intOf]
              · rw [if_neg hn] at hct
                have hcn : cutT (bs.drop p1) = none := hct
                have HR : Hid (R = ([], 8)) := HNONE.out (readN_fails hrd.out (cut2_none2 hA hcn) hlt)
                have hni : (bs.length : Int) - ((p1 : Int) + 2) < (N : Int) := by omega
                clear hct hcn
                go_wp2
                go_quiet (fail)
                go_wp2
                go_ret2
                refine ⟨.slice none 0 0, by rw [HR.out]; rfl, ?_, below_drewN hbi _⟩
                rw [HR.out]
                exact World.ownsRow_nil _ _ _ _
            · have hcn := cutT_end bs p1 hs
              have HR : Hid (R = ([], 8)) := HNONE.out (readN_fails hrd.out (cut2_none2 hA hcn) hlt)
              have hsi : (bs.length : Int) < (p1 : Int) + 2 := by omega
              clear hcn
              go_wp2
              go_ret2
              refine ⟨.slice none 0 0, by rw [HR.out]; rfl, ?_, hbi⟩
              rw [HR.out]
              exact World.ownsRow_nil _ _ _ _
          · obtain ⟨rfl, hc2⟩ := h2
            have HN : Hid (readN (j + 1) (bs.drop 1) = some (l ++ [(A, B)], bs.drop p1)) := readN_next hrd.out hc2
            have hl64 : l.length ≤ 255 := by have := hll.out; omega
            have HROW : Hid (wr.ownsRow w.heap.size 51 2 (.slice av l.length cv) l.length (lbCells l)) := row_below hrow.out HP.out.bel
            have hsw := hbi.size
            clear hc2 hrow
            go_wp2_with (first
              | (at_builtin; refine wpList_append_labs _ rfl _ _ rfl w.heap.size (.slice av l.length cv) l.length (lbCells l) rfl (World.ownsRow.alloc HROW.out _) _ [(A, B)] rfl (LabsAt.lone (heap_alloc_new wr _)) (by simp; omega) (by rw [World.size_alloc]; omega) ?_; intro v4 w4 hr4 hg4 _; have hb4 : Below w.heap.size w w4 := below_grown (hbi.alloc hsw _) (row_lo HROW.out) hg4))
            go_roundw
            case rel =>
              refine ⟨j + 1, p1, l ++ [(A, B)], by omega, hp1, by show _ = _; rw [List.length_append, hll.out]; rfl, by go_num, rfl, HN, ?_, hb4⟩
              show World.ownsRow _ _ _ _ _ _ _
              rw [lbCells_append, List.length_append]
              exact hr4
            case measure => simp [intOf]; omega
      · have hjl : ¬ (j : Int) < (cN : Int) := by omega
        have ej : j = cN := by omega
        have HS := HSOME.out (bs.drop p) l (by rw [← ej]; exact hrd.out)
        have hl64 : l.length ≤ 255 := by have := hll.out; omega
        have hri := refRight_any _ l wo (LabsAt.of_row hrow.out) (by omega) (readN_Sized hrd.out)
        have HROW : Hid (wo.ownsRow w.heap.size 51 2 (.slice av l.length cv) l.length (lbCells l)) := hrow
        have HBL : Hid (Below w.heap.size w wo) := hbel
        clear HNONE HSOME hrd hrow hbel
        by_cases hpl : p = bs.length
        · have hem : (bs.drop p).isEmpty = true := by rw [hpl]; simp
          have hpli : (p : Int) = (bs.length : Int) := by omega
          cases hrs : rightS l
          · have HR : Hid (R = ([], 8)) := by show _ = _; rw [HS, hrs]; simp
            rw [hrs] at hri
            clear HS hem hpl
            go_wp2_with (first | (go_at_call 15; refine hri.mono ?_; clear hri; rintro e w5 ⟨rfl, hb5⟩))
            go_ret2
            refine ⟨.slice none 0 0, by rw [HR.out]; rfl, ?_, HBL.out.trans (hb5.mono HBL.out.size)⟩
            rw [HR.out]
            exact World.ownsRow_nil _ _ _ _
          · have HR : Hid (R = (l, 0)) := by show _ = _; rw [HS, hrs, hem]; simp
            rw [hrs] at hri
            clear HS hem hpl
            go_wp2_with (first | (go_at_call 15; refine hri.mono ?_; clear hri; rintro e w5 ⟨rfl, hb5⟩))
            go_ret2
            refine ⟨_, by rw [HR.out]; rfl, ?_, HBL.out.trans (hb5.mono HBL.out.size)⟩
            rw [HR.out]
            exact row_below HROW.out hb5
        · have hem : (bs.drop p).isEmpty = false := by
            rw [Bool.eq_false_iff]
            intro h9
            have h8 : (bs.drop p).length = 0 := by rw [List.isEmpty_iff.1 h9]; rfl
            rw [List.length_drop] at h8
            omega
          have HR : Hid (R = ([], 8)) := by show _ = _; rw [HS, hem]; simp
          have hpli : ¬ (p : Int) = (bs.length : Int) := by omega
          clear HS hem hri hpl
          go_wp2
          go_ret2
          refine ⟨.slice none 0 0, by rw [HR.out]; rfl, ?_, HBL.out⟩
          rw [HR.out]
          exact World.ownsRow_nil _ _ _ _

end Go.Proofs.YtobkomfeojhhbaaDoor
