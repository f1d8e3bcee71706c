/- The program reads a set's bytes. -/
import Derived.Test.YtobkomfeojhhbaaDoorOa
import Derived.Test.YtobkomfeojhhbaaDoorNe
import Derived.Test.YtobkomfeojhhbaaDoorLt
namespace Go.Proofs.YtobkomfeojhhbaaDoor
open Go.RowKit Go.Maps

/-- A label in a block of its own, and what is below it. -/
structure LoneAt (wr W : World) (A B : ByteArray) : Prop where
  bel : Below wr.heap.size wr W
  blk : W.heap[wr.heap.size]? = some (.cells #[.string A, .string B] 51 (0, 0))
theorem LoneAt.new (wr : World) (A B : ByteArray) : LoneAt wr (wr.alloc (.cells #[.string A, .string B] 51)) A B := ⟨(Below.refl _ _).alloc (Nat.le_refl _) _, heap_alloc_new wr _⟩
theorem LoneAt.cells {wr W : World} {A B : ByteArray} (h : LoneAt wr W A B) : W.cell? ⟨wr.heap.size, 0, none⟩ = some (.string A) ∧ W.cell? ⟨wr.heap.size, 1, none⟩ = some (.string B) ∧ (∀ i, W.frozen? ⟨wr.heap.size, i, none⟩ = false) :=
  ⟨World.news_of_block h.blk 0 _ rfl, World.news_of_block h.blk 1 _ rfl, fun i => by simp [World.frozen?, h.blk]⟩
theorem LoneAt.drewN {wr W : World} {A B : ByteArray} (h : LoneAt wr W A B) (q : Nat) : LoneAt wr (W.drewN q) A B := ⟨below_drewN h.bel q, h.blk⟩
theorem LoneAt.set0 {wr W : World} {A B : ByteArray} (h : LoneAt wr W A B) (x : ByteArray) : LoneAt wr (W.setCell ⟨wr.heap.size, 0, none⟩ (.string x)) x B :=
  ⟨h.bel.setCell (p := ⟨wr.heap.size, 0, none⟩) (Nat.le_refl _) _, by have := heap_setCell_same (i := 0) h.blk (.string x); simpa using this⟩
theorem LoneAt.set1 {wr W : World} {A B : ByteArray} (h : LoneAt wr W A B) (x : ByteArray) : LoneAt wr (W.setCell ⟨wr.heap.size, 1, none⟩ (.string x)) A x :=
  ⟨h.bel.setCell (p := ⟨wr.heap.size, 1, none⟩) (Nat.le_refl _) _, by have := heap_setCell_same (i := 1) h.blk (.string x); simpa using this⟩
theorem cutText_lone (wr : World) (v : Value) (bs : List UInt8) (h : BytesAt wr v bs) (hl : bs.length ≤ 1000000) (W : World) (A B : ByteArray) (hW : LoneAt wr W A B) :
    Calls Tryd.prog 61 #[v] W fun e w' => cutAns v bs e ∧ LoneAt wr w' A B :=
  (cutText_any v bs W (h.below hW.bel) hl).mono fun e w' ⟨he, q, hq⟩ => ⟨he, by rw [hq]; exact hW.drewN q⟩
theorem heap_alloc_set (w : World) (a : Addr) (u : Value) (o : Obj) : ((w.setCell a u).alloc o).heap[w.heap.size]? = some o := by
  have := heap_alloc_new (w.setCell a u) o
  have e : (w.setCell a u).heap.size = w.heap.size := by simp [World.setCell]
  rw [e] at this
  exact this
theorem cutAns_none {v : Value} {bs : List UInt8} {e : Ending} (h : cutAns v bs e) (hc : cutT bs = none) : e = .returned (.tuple #[.string ⟨#[]⟩, .slice none 0 0, .bool false]) := by
  unfold cutAns at h
  rw [hc] at h
  exact h
theorem cutAns_some {v : Value} {bs r : List UInt8} {x : ByteArray} {e : Ending} (h : cutAns v bs e) (hc : cutT bs = some (x, r)) : ∃ a' c', e = .returned (.tuple #[.string x, .slice a' r.length c', .bool true]) ∧ ∀ w0, BytesAt w0 v bs → BytesAt w0 (.slice a' r.length c') r := by
  unfold cutAns at h
  rw [hc] at h
  exact h
theorem cut2_none1 {r : List UInt8} (h : cutT r = none) : cut2 r = none := by unfold cut2; rw [h]
theorem cut2_none2 {r r1 : List UInt8} {x : ByteArray} (h : cutT r = some (x, r1)) (h1 : cutT r1 = none) : cut2 r = none := by unfold cut2; rw [h]; simp only [h1]
theorem cut2_both {r r1 r2 : List UInt8} {x y : ByteArray} (h : cutT r = some (x, r1)) (h1 : cutT r1 = some (y, r2)) : cut2 r = some ((x, y), r2) := by unfold cut2; rw [h]; simp only [h1]
theorem cutT_less {r r1 : List UInt8} {x : ByteArray} (h : cutT r = some (x, r1)) : r1.length ≤ r.length := by
  have := (cutT_some h).1
  rw [this, List.length_append]
  omega
theorem readR_none {c : UInt8} {r : List UInt8} (h : readN c.toNat r = none) : readR (c :: r) = ([], 8) := by unfold readR; simp only [h]
theorem readR_some {c : UInt8} {r rest : List UInt8} {l : List Lb} (h : readN c.toNat r = some (l, rest)) : readR (c :: r) = if (rest.isEmpty && rightS l) = true then (l, 0) else ([], 8) := by unfold readR; simp only [h]
theorem readN_Sized {n : Nat} {bs r : List UInt8} {l : List Lb} (h : readN n bs = some (l, r)) : Sized l := fun i hi => by
  have := readN_sized n h _ (List.getElem_mem hi)
  unfold maxLen
  omega

set_option maxRecDepth 100000 in
set_option maxHeartbeats 30000000 in
/-- One round, and what is behind the loop, from the slice behind the first byte. -/
theorem read_any (v : Value) (bs : List UInt8) (w : World) (h : BytesAt w v bs) (hl : bs.length ≤ 1000000) (hT : Tabs w) :
    Calls Tryd.prog 34 #[v] w fun e w' => ∃ v', e = .returned (.tuple #[v', .int .i64 (readR bs).2]) ∧ w'.ownsRow w.heap.size 51 2 v' (readR bs).1.length (lbCells (readR bs).1) ∧ Below w.heap.size w w' := by
  match bs, h, hl with
  | [], h, _ =>
    obtain ⟨a, c, rfl, -, -⟩ := id h
    clear h
    go_enter Tryd.func34, Tryd.ntmps34
    go_wp2
    go_ret2
    exact ⟨.slice none 0 0, rfl, World.ownsRow_nil _ _ _ _, Below.refl _ _⟩
  | c0 :: r0, h, hl =>
    obtain ⟨ad, c, rfl, hlc, -⟩ := id h
    obtain ⟨bk, o, rfl, h0⟩ := h.one 0 (by simp)
    have g0 := h0 w (Below.refl _ _)
    simp only [List.getElem_cons_zero, Nat.add_zero] at g0
    have hc0 := c0.toNat_lt
    have hmx : c ≤ 9223372036854775807 := by have h1 := hlc; unfold maxLen at h1; omega
    have hA : BytesAt w (.slice (if c = 1 then some ⟨bk, o, none⟩ else some ⟨bk, o + 1, none⟩) r0.length (c - 1)) r0 := by
      have h9 := h.rest 1 (by simp)
      simp only [List.drop_succ_cons, List.drop_zero, List.length_cons, Nat.add_sub_cancel] at h9
      exact h9
    have hc1 : 1 ≤ c := by rw [List.length_cons] at hlc; omega
    obtain ⟨i0, hi0, hz0, hz1, hz2⟩ := info_parts infoLb
    have HMANY : Hid (64 < c0.toNat → readR (c0 :: r0) = ([], 8)) := readR_many
    have HNONE : Hid (readN c0.toNat r0 = none → readR (c0 :: r0) = ([], 8)) := readR_none
    have HSOME : Hid (∀ rest l, readN c0.toNat r0 = some (l, rest) → readR (c0 :: r0) = if (rest.isEmpty && rightS l) = true then (l, 0) else ([], 8)) := fun rest l => readR_some
    have HT : Hid (Tabs w) := hT
    rw [List.length_cons] at *
    generalize readR (c0 :: r0) = R at *
    generalize c0.toNat = cN at *
    clear h h0 hT
    have hcase : ∃ o1, (if c = 1 then some (⟨bk, o, none⟩ : Addr) else some ⟨bk, o + 1, none⟩) = some ⟨bk, o1, none⟩ := by
      by_cases hc : c = 1
      · exact ⟨o, by rw [if_pos hc]⟩
      · exact ⟨o + 1, by rw [if_neg hc]⟩
    obtain ⟨o1, ho1⟩ := hcase
    rw [ho1] at hA
    have HA : Hid (BytesAt w (.slice (some ⟨bk, o1, none⟩) r0.length (c - 1)) r0) := hA
    clear hA
    by_cases h64 : 64 < cN
    · have HR : Hid (R = ([], 8)) := HMANY.out h64
      have h64i : (64 : Int) < (cN : Int) := by omega
      clear HMANY HNONE HSOME HA HT
      go_enter Tryd.func34, Tryd.ntmps34
      go_wp2
      go_quiet (fail)
      go_wp2
      go_ret2
      refine ⟨.slice none 0 0, by rw [HR.out]; rfl, ?_, below_drewN (Below.refl _ _) _⟩
      rw [HR.out]
      exact World.ownsRow_nil _ _ _ _
    · have h64i : ¬ (64 : Int) < (cN : Int) := by omega
      clear HMANY
      go_enter Tryd.func34, Tryd.ntmps34
      go_wp2
      go_quiet (fail)
      obtain ⟨W, hW⟩ : ∃ W, W = w.drewN nq := ⟨_, rfl⟩
      have hbW : Below w.heap.size w W := by rw [hW]; exact below_drewN (Below.refl _ _) _
      rw [← hW]
      clear hW
      obtain ⟨W1, hmk, hown1, hgrow1⟩ := run_make_own (P := Tryd.prog) (w := W) w.heap.size 22 51 i0 _ 2 Tryd.underlying22 hi0 hz0 hz1 .i64 .i64 cN (by rw [hz2]; omega) (by unfold maxLen; omega) hbW.size
      have HB1 : Hid (Below w.heap.size w W1) := hbW.grown hgrow1 hbW.size (fun j hj => by cases hj)
      have HR1 : Hid (W1.ownsRow w.heap.size 51 2 (.slice (some ⟨W.heap.size, 0, none⟩) 0 cN) 0 []) := hown1
      clear hown1 hgrow1 hbW
      try simp only [ho1]
      go_wp2
      go_loopw [5, 6, 24] (fun rv vs i wr => ∃ (j : Nat) (l : List Lb) (r : List UInt8) (ar : Option Addr) (cr : Nat), j ≤ cN ∧ Hid (l.length = j) ∧ i = .int .i64 j ∧ rv = .slice ar r.length cr ∧ r.length ≤ 1000000 ∧ Hid (readN j r0 = some (l, r)) ∧ Hid (BytesAt w (.slice ar r.length cr) r) ∧ Hid (wr.ownsRow w.heap.size 51 2 vs l.length (lbCells l)) ∧ Hid (Below w.heap.size w wr)) (fun _ _ i _ => cN - (intOf i).toNat)
      case atStart => exact ⟨0, [], r0, _, _, Nat.zero_le _, rfl, rfl, by first | rfl | (simp only [ho1]; done), by omega, rfl, HA, HR1, HB1⟩
      case round =>
        clear HA HR1 HB1 hmk
        obtain ⟨j, l, r, ar, cr, hj, hll, rfl, rfl, hrl, hrd, hby, hrow, hbel⟩ := hrel
        have hl64 : l.length ≤ 64 := by have := hll.out; omega
        obtain ⟨av, cv, hvv⟩ := slice_of_row hrow.out
        subst hvv
        by_cases hlt : j < cN
        · have hjl : (j : Int) < (cN : Int) := by omega
          have HB : Hid (∀ V q, BytesAt w V q → BytesAt wr V q) := fun V q hq => hq.below hbel.out
          have hcut1 := cutText_lone wr _ r (HB.out _ _ hby.out) hrl _ _ _ (LoneAt.new wr ⟨#[]⟩ ⟨#[]⟩)
          cases h1 : cutT r with
          | none =>
            have HR : Hid (R = ([], 8)) := HNONE.out (readN_fails hrd.out (cut2_none1 h1) hlt)
            have hcut2 := fun W (hW : LoneAt wr W ⟨#[]⟩ ⟨#[]⟩) => cutText_lone wr (.slice none 0 0) [] BytesAt.nil (by simp) W _ _ hW
            have HC2 : Hid _ := hcut2
            have h1' : Hid (cutT r = none) := h1
            clear hcut2 h1 HNONE HSOME hrd hby hrow
            go_wp2_with (first
              | (go_at_call 61; refine hcut1.mono ?_; clear hcut1; rintro e w2 ⟨he, hl2⟩; have he := cutAns_none he h1'.out; subst he; obtain ⟨q0, q1, f0⟩ := hl2.cells; have HL2 : Hid (LoneAt wr (w2.setCell ⟨wr.heap.size, 0, none⟩ (.string ⟨#[]⟩)) ⟨#[]⟩ ⟨#[]⟩) := hl2.set0 _; clear hl2)
              | (go_at_call 61; refine (HC2.out _ HL2.out).mono ?_; clear HC2; rintro e w3 ⟨he, hl3⟩; have he := cutAns_none he rfl; subst he; obtain ⟨q2, q3, f1⟩ := hl3.cells; have HL3 : Hid (LoneAt wr (w3.setCell ⟨wr.heap.size, 1, none⟩ (.string ⟨#[]⟩)) ⟨#[]⟩ ⟨#[]⟩) := hl3.set1 _; clear hl3))
            go_ret2
            refine ⟨.slice none 0 0, by rw [HR.out]; rfl, ?_, hbel.out.trans (HL3.out.bel.mono hbel.out.size)⟩
            rw [HR.out]
            exact World.ownsRow_nil _ _ _ _
          | some p1 =>
            obtain ⟨x, r1⟩ := p1
            have hr1 := cutT_less h1
            cases h2 : cutT r1 with
            | none =>
              have HR : Hid (R = ([], 8)) := HNONE.out (readN_fails hrd.out (cut2_none2 h1 h2) hlt)
              have HC2 : Hid (∀ V W, BytesAt wr V r1 → LoneAt wr W x ⟨#[]⟩ → Calls Tryd.prog 61 #[V] W fun e w' => cutAns V r1 e ∧ LoneAt wr w' x ⟨#[]⟩) := fun V W hV hW => cutText_lone wr V r1 hV (by omega) W _ _ hW
              have h1' : Hid (cutT r = some (x, r1)) := h1
              have h2' : Hid (cutT r1 = none) := h2
              clear h1 h2 HNONE HSOME hrd hrow
              go_wp2_with (first
                | (go_at_call 61; refine hcut1.mono ?_; clear hcut1; rintro e w2 ⟨he, hl2⟩; obtain ⟨a1, c1, he, hB1⟩ := cutAns_some he h1'.out; subst he; obtain ⟨q0, q1, f0⟩ := hl2.cells; have HL2 : Hid (LoneAt wr (w2.setCell ⟨wr.heap.size, 0, none⟩ (.string x)) x ⟨#[]⟩) := hl2.set0 _; have HB1 : Hid (BytesAt wr (.slice a1 r1.length c1) r1) := HB.out _ _ (hB1 _ hby.out); clear hl2 hB1)
                | (go_at_call 61; refine (HC2.out _ _ HB1.out HL2.out).mono ?_; clear HC2; rintro e w3 ⟨he, hl3⟩; have he := cutAns_none he h2'.out; subst he; obtain ⟨q2, q3, f1⟩ := hl3.cells; have HL3 : Hid (LoneAt wr (w3.setCell ⟨wr.heap.size, 1, none⟩ (.string ⟨#[]⟩)) x ⟨#[]⟩) := hl3.set1 _; clear hl3))
              go_ret2
              refine ⟨.slice none 0 0, by rw [HR.out]; rfl, ?_, hbel.out.trans (HL3.out.bel.mono hbel.out.size)⟩
              rw [HR.out]
              exact World.ownsRow_nil _ _ _ _
            | some p2 =>
              obtain ⟨y, r2⟩ := p2
              have hr2 := cutT_less h2
              have HN : Hid (readN (j + 1) r0 = some (l ++ [(x, y)], r2)) := readN_next hrd.out (cut2_both h1 h2)
              have HC2 : Hid (∀ V W, BytesAt wr V r1 → LoneAt wr W x ⟨#[]⟩ → Calls Tryd.prog 61 #[V] W fun e w' => cutAns V r1 e ∧ LoneAt wr w' x ⟨#[]⟩) := fun V W hV hW => cutText_lone wr V r1 hV (by omega) W _ _ hW
              have h1' : Hid (cutT r = some (x, r1)) := h1
              have h2' : Hid (cutT r1 = some (y, r2)) := h2
              have HROW : Hid (∀ W, Below wr.heap.size wr W → W.ownsRow w.heap.size 51 2 (.slice av l.length cv) l.length (lbCells l)) := fun W hW => row_below hrow.out hW
              clear h1 h2 HNONE HSOME hrd hrow
              go_wp2_with (first
                | (go_at_call 61; refine hcut1.mono ?_; clear hcut1; rintro e w2 ⟨he, hl2⟩; obtain ⟨a1, c1, he, hB1⟩ := cutAns_some he h1'.out; subst he; obtain ⟨q0, q1, f0⟩ := hl2.cells; have HL2 : Hid (LoneAt wr (w2.setCell ⟨wr.heap.size, 0, none⟩ (.string x)) x ⟨#[]⟩) := hl2.set0 _; have HBy1 : Hid (BytesAt w (.slice a1 r1.length c1) r1) := hB1 _ hby.out; clear hl2 hB1)
                | (go_at_call 61; refine (HC2.out _ _ (HB.out _ _ HBy1.out) HL2.out).mono ?_; clear HC2; rintro e w3 ⟨he, hl3⟩; obtain ⟨a2, c2, he, hB2⟩ := cutAns_some he h2'.out; subst he; obtain ⟨q2, q3, f1⟩ := hl3.cells; have HL3 : Hid (LoneAt wr (w3.setCell ⟨wr.heap.size, 1, none⟩ (.string y)) x y) := hl3.set1 _; have HBy2 : Hid (BytesAt w (.slice a2 r2.length c2) r2) := hB2 _ HBy1.out; have hs3 := hl3.bel.size; clear hl3 hB2)
                | (at_builtin; refine wpList_append_labs _ rfl _ _ rfl w.heap.size (.slice av l.length cv) l.length (lbCells l) rfl ((HROW.out _ HL3.out.bel).alloc _) _ [(x, y)] rfl (LabsAt.lone (heap_alloc_set _ _ _ _)) (by simp; omega) (by have h9 := hbel.out.size; have h8 := HL3.out.bel.size; rw [World.size_alloc]; omega) ?_; intro v4 w4 hr4 hg4 _; have hb4 : Below w.heap.size w w4 := below_grown ((hbel.out.trans (HL3.out.bel.mono hbel.out.size)).alloc (by have h9 := hbel.out.size; have h8 := HL3.out.bel.size; omega) _) (row_lo (HROW.out _ HL3.out.bel)) hg4))
              go_roundw
              case rel =>
                refine ⟨j + 1, l ++ [(x, y)], r2, a2, c2, by omega, by show _ = _; rw [List.length_append, hll.out]; rfl, by go_num, rfl, by omega, HN, HBy2, ?_, hb4⟩
                show World.ownsRow _ _ _ _ _ _ _
                rw [lbCells_append, List.length_append]
                exact hr4
              case measure => simp [intOf]; omega
        · have hjl : ¬ (j : Int) < (cN : Int) := by omega
          have ej : j = cN := by omega
          have HS := HSOME.out r l (by rw [← ej]; exact hrd.out)
          have hri := right_any _ l wr (LabsAt.of_row hrow.out) (by omega) (readN_Sized hrd.out) (HT.out.below hbel.out)
          have HROW : Hid (wr.ownsRow w.heap.size 51 2 (.slice av l.length cv) l.length (lbCells l)) := hrow
          have HBL : Hid (Below w.heap.size w wr) := hbel
          clear HNONE HSOME hrd hby hrow hbel HT
          cases hrr : r.isEmpty
          · have HR : Hid (R = ([], 8)) := by show _ = _; rw [HS, hrr]; simp
            have hrl0 : (0 : Int) < (r.length : Int) := by
              cases r with
              | nil => cases hrr
              | cons z t => simp
            clear HS hri hrr
            generalize r.length = rn at *
            go_wp2
            go_ret2
            refine ⟨.slice none 0 0, by rw [HR.out]; rfl, ?_, HBL.out⟩
            rw [HR.out]
            exact World.ownsRow_nil _ _ _ _
          · have hr0 : r = [] := by simpa using hrr
            subst hr0
            cases hrs : rightS l
            · have HR : Hid (R = ([], 8)) := by show _ = _; rw [HS, hrs]; simp
              rw [hrs] at hri
              clear HS
              go_wp2_with (first | (go_at_call 14; refine hri.mono ?_; clear hri; rintro e w5 ⟨rfl, hb5⟩))
              go_ret2
              refine ⟨.slice none 0 0, by rw [HR.out]; rfl, ?_, HBL.out.trans (hb5.mono HBL.out.size)⟩
              rw [HR.out]
              exact World.ownsRow_nil _ _ _ _
            · have HR : Hid (R = (l, 0)) := by show _ = _; rw [HS, hrs]; simp
              rw [hrs] at hri
              clear HS
              go_wp2_with (first | (go_at_call 14; refine hri.mono ?_; clear hri; rintro e w5 ⟨rfl, hb5⟩))
              go_ret2
              refine ⟨_, by rw [HR.out]; rfl, ?_, HBL.out.trans (hb5.mono HBL.out.size)⟩
              rw [HR.out]
              exact row_below HROW.out hb5

end Go.Proofs.YtobkomfeojhhbaaDoor
