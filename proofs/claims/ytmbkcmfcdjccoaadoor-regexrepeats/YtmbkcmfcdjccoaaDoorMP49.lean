/- Texts that belong together. -/
import Derived.Test.YtmbkcmfcdjccoaaDoorMP40
import Derived.Test.YtmbkcmfcdjccoaaDoorSz
import Derived.Laws.CopyOwn
import Derived.Test.YtmbkcmfcdjccoaaDoorMP50
/- slices.Repeat, of one number. -/
namespace Go.Proofs.YtmbkcmfcdjccoaaDoor
open Go.RowKit Go.Maps

theorem infoInt2 : (Tryd.prog.info? 3).map (fun i => (i.zero, i.size, i.bytes)) = some (some (.int .i64 0), 1, 8) := by kernel_rfl
/-- A row whose first cells are filled. -/
def fillR (n N : Nat) : List Value := List.replicate n (Value.int .i64 (-1)) ++ List.replicate (N - n) (Value.int .i64 0)
theorem fillR_len {n N : Nat} (h : n ≤ N) : (fillR n N).length = N := by simp [fillR]; omega
theorem splice_fill {n N m : Nat} (h : n + m ≤ N) : splice (fillR n N) n (List.replicate m (Value.int .i64 (-1))) = fillR (n + m) N := by
  unfold splice fillR
  rw [List.take_append_of_le_length (by simp), List.take_of_length_le (by simp), List.length_replicate, List.drop_append, List.drop_of_length_le (by simp)]
  simp only [List.length_replicate, List.nil_append, List.drop_replicate]
  rw [← List.append_assoc, List.replicate_append_replicate]
  congr 2
  omega
set_option maxRecDepth 100000 in
set_option maxHeartbeats 800000 in
theorem repeat_any (N bx : Nat) (w : World) (hN : 2 ≤ N) (hN2 : N ≤ 100000) (hx : w.cell? ⟨bx, 0, none⟩ = some (.int .i64 (-1))) (hbx : bx < w.heap.size) :
    Calls Tryd.prog 30 #[.slice (some ⟨bx, 0, none⟩) 1 1, .int .i64 N] w fun e w' => e = .returned (.slice (some ⟨w.heap.size, 0, none⟩) N N) ∧ w'.heap[w.heap.size]? = some (.cells (fillR N N).toArray 3) ∧ Below w.heap.size w w' := by
  obtain ⟨i0, hi0, hz0, hz1, hz2⟩ := info_parts infoInt2
  have h9 := run_make (P := Tryd.prog) w 42 3 i0 _ Tryd.underlying42 hi0 hz0 .i64 .i64 (N : Int) (N : Int) (by omega) (Int.le_refl _) (by rw [hz2]; omega) (by omega)
  rw [Int.toNat_natCast, hz1, Nat.mul_one] at h9
  have e : madeCells (Value.int .i64 0).cells N = (fillR 0 N).toArray := by
    apply Array.toList_inj.1
    show (madeCells #[Value.int .i64 0] N).toList = _
    rw [toList_madeCells_one]
    simp [fillR]
  rw [e] at h9
  have HML : Hid (∀ W, Calls Tryd.prog 42 #[.int .u64 1, .int .u64 (N : Int)] W fun e w' => e = .returned (.tuple #[.int .u64 0, .int .u64 (N : Int)]) ∧ w' = W) := fun W => by
    have h8 := Any.bits_Mul Tryd.bmul 1 N (by omega) (by omega) W
    rw [show 1 * N / 18446744073709551616 = 0 by omega, show 1 * N % 18446744073709551616 = N by omega] at h8
    exact h8
  have hu : Tryd.prog.underlying 42 = some (.slice 3) := Tryd.underlying42
  have hsz : (Tryd.prog.info? 3).map (·.size) = some 1 := by rw [hi0]; simp [hz1]
  have hw0 : (w.alloc (.cells (fillR 0 N).toArray 3)).heap[w.heap.size]? = some (.cells (fillR 0 N).toArray 3) := heap_alloc_new _ _
  have hb0 : Below w.heap.size w (w.alloc (.cells (fillR 0 N).toArray 3)) := (Below.refl _ w).alloc (Nat.le_refl _) _
  have hx0 : (w.alloc (.cells (fillR 0 N).toArray 3)).cell? ⟨bx, 0, none⟩ = some (.int .i64 (-1)) := (hb0.cell (p := ⟨bx, 0, none⟩) hbx).trans hx
  obtain ⟨W0, hW0⟩ : ∃ W0, W0 = w.alloc (.cells (fillR 0 N).toArray 3) := ⟨_, rfl⟩
  rw [← hW0] at h9 hw0 hb0 hx0
  have HW0 := (show Hid (W0.heap[w.heap.size]? = some (.cells (fillR 0 N).toArray 3) ∧ Below w.heap.size w W0 ∧ W0.cell? ⟨bx, 0, none⟩ = some (.int .i64 (-1))) from ⟨hw0, hb0, hx0⟩)
  have HU := (show Hid (Tryd.prog.underlying 42 = some (.slice 3) ∧ (Tryd.prog.info? 3).map (·.size) = some 1) from ⟨hu, hsz⟩)
  have hNz : ((N : Int) < 0) = False := by simp
  clear hi0 hz0 hz1 hz2 e hu hsz hw0 hb0 hx0 hx hbx hW0
  go_enter Tryd.func30, Tryd.ntmps30
  go_wp2_with (first
    | (go_at_call 42; refine (HML.out _).mono ?_; rintro e w1 ⟨rfl, hw1⟩; have hw1 := hw1.symm; subst hw1)
    | (go_loud (refine wpList_copy_splice rfl (.tmp 31) (.tmp 32) 42 42 rfl 3 HU.out.1 HU.out.2 (some ⟨w.heap.size, 0, none⟩) (some ⟨bx, 0, none⟩) N N 1 1 rfl rfl w.heap.size 0 (fillR 0 N) 3 HW0.out.1 [.int .i64 (-1)] (by show 1 = min 1 N; omega) (fun _ => ⟨rfl, _, rfl, fun j v hj => by rcases j with _ | j <;> simp at hj; subst hj; exact HW0.out.2.2⟩) (by rw [fillR_len (Nat.zero_le _)]; simp; omega) (by simp [Value.oneCell']) w.heap.size w HW0.out.2.1 (Nat.le_refl _) ?_; intro w2 hg2 hb2; have HW2 : Hid (w2.heap[w.heap.size]? = some (.cells (fillR 1 N).toArray 3) ∧ Below w.heap.size w w2) := ⟨by have h9 := splice_fill (n := 0) (m := 1) (N := N) (by omega); have h8 := hg2.out; rw [show [Value.int .i64 (-1)] = List.replicate 1 (Value.int .i64 (-1)) from rfl, h9] at h8; exact h8, hb2⟩; clear hg2 hb2)))
  clear HW0 HML h9
  go_loopw [8] (fun nv wx => ∃ n : Nat, nv = .int .i64 n ∧ 1 ≤ n ∧ n ≤ N ∧ Hid (wx.heap[w.heap.size]? = some (.cells (fillR n N).toArray 3) ∧ Below w.heap.size w wx)) (fun nv _ => N - (intOf nv).toNat)
  case atStart => exact ⟨1, by simp, Nat.le_refl _, by omega, HW2⟩
  case round =>
    clear HW2
    obtain ⟨n, rfl, hn1, hn, HW⟩ := hrel
    by_cases hlt : n < N
    · have hz : (n : Int) < N := by omega
      have hne : N ≠ n := by omega
      have hg := HW.out.1
      obtain ⟨cs, hcs⟩ : ∃ cs, cs = List.replicate (min n (N - n)) (Value.int .i64 (-1)) := ⟨_, rfl⟩
      have hcl : cs.length = min n (N - n) := by rw [hcs]; simp
      have hsrc : ∀ j v, cs[j]? = some v → wr.drew.cell? ((⟨w.heap.size, 0, none⟩ : Addr).add j) = some v := by
        intro j v hj
        rw [hcs, List.getElem?_replicate] at hj
        split at hj
        · rename_i h8
          injection hj with hj
          subst hj
          rw [show (⟨w.heap.size, 0, none⟩ : Addr).add j = ⟨w.heap.size, j, none⟩ by simp [Addr.add] <;> omega, cell_of_heap (w := wr.drew) hg]
          simp only [List.getElem?_toArray, fillR]
          rw [List.getElem?_append_left (by simp; omega), List.getElem?_replicate, if_pos (by omega)]
        · cases hj
      have hone : ∀ v ∈ cs, v.oneCell' = true := by
        intro v hv
        rw [hcs] at hv
        rw [List.eq_of_mem_replicate hv]
        rfl
      have hsp : splice (fillR n N) n cs = fillR (n + cs.length) N := by
        rw [hcl]
        rw [hcs]
        exact splice_fill (by omega)
      have hm1 : 1 ≤ cs.length := by rw [hcl]; omega
      have hm2 : n + cs.length ≤ N := by rw [hcl]; omega
      have hcp := run_copy_row (P := Tryd.prog) wr.drew 42 42 3 3 w.heap.size n (N - n) (N - n) ⟨w.heap.size, 0, none⟩ n N _ _ cs HU.out.1 HU.out.2 hg hcl hsrc (by rw [List.size_toArray, fillR_len hn]; omega) hone
      obtain ⟨w4, hw4⟩ : ∃ w4, w4 = wr.drew.setRow w.heap.size ((fillR n N).toArray.toList.take n ++ cs ++ (fillR n N).toArray.toList.drop (n + cs.length)).toArray := ⟨_, rfl⟩
      have HW4 : Hid (w4.heap[w.heap.size]? = some (.cells (fillR (n + cs.length) N).toArray 3) ∧ Below w.heap.size w w4) := by
        refine ⟨?_, ?_⟩
        · rw [hw4, ← hsp]
          have h9 := setRow_heap wr.drew w.heap.size _ ((fillR n N).toArray.toList.take n ++ cs ++ (fillR n N).toArray.toList.drop (n + cs.length)).toArray 3 _ hg
          rw [h9]
          simp [splice]
        · rw [hw4]
          exact below_setRow HW.out.2.drew (Nat.le_refl _) _
      rw [← hw4] at hcp
      obtain ⟨m, hm⟩ : ∃ m, m = cs.length := ⟨_, rfl⟩
      rw [← hm] at hcp HW4 hm1 hm2
      have hcp : Sem.run Tryd.prog (Builtin.copy_ #[42, 42] 3 #[.slice (some ⟨w.heap.size, n, none⟩) (N - n) (N - n), .slice (some ⟨w.heap.size, 0, none⟩) n N]) wr.drew = .ok (.int .i64 (m : Int)) w4 := hcp
      have hmz : (m : Int) ≤ 100000 := by omega
      have hnz : (n : Int) ≤ 100000 := by omega
      clear hcs hg hcl hsrc hone hsp hw4 hm
      go_wp2_with fail
      go_region
      all_goals
        go_wp2_with fail
        go_roundw
        case rel => exact ⟨n + m, by go_num, by omega, hm2, HW4⟩
        case measure => simp [intOf]; omega
    · obtain rfl : n = N := by omega
      go_wp2_with fail
      go_ret
      exact ⟨rfl, HW.out.1, HW.out.2⟩
end Go.Proofs.YtmbkcmfcdjccoaaDoor

/- Match, Count, Groups: walked. -/
namespace Go.Proofs.YtmbkcmfcdjccoaaDoor
open Go.RowKit Go.Maps

/-- An expression's program in memory. -/
def PgS (w : World) (F : Nat → Prop) (p : Nat) (x : Nd) (g : Nat) : Prop := ∃ ms, ms.map Ms.st = progR x ∧ PgAt w F p ms g
theorem PgAt.to {w w' : World} {F G : Nat → Prop} {p g : Nat} {ms : List Ms} (h : PgAt w F p ms g) (hFG : ∀ b, F b → G b) (hb : ∀ b, F b → w'.heap[b]? = w.heap[b]?) : PgAt w' G p ms g := by
  obtain ⟨va, c, h1, h2⟩ := h.blk
  exact ⟨⟨va, c, (hb p h.foot).trans h1, h2.to hFG hb⟩, hFG p h.foot, fun m hm => ((h.cls m hm).to hb).wide hFG⟩
theorem PgS.below {w w' : World} {F : Nat → Prop} {p g : Nat} {x : Nd} (h : PgS w F p x g) (hF : ∀ b, F b → b < w.heap.size) (hb : Below w.heap.size w w') : PgS w' F p x g := by
  obtain ⟨ms, h1, h2⟩ := h
  exact ⟨ms, h1, h2.to (fun _ h => h) (fun b hF' => hb.block b (hF b hF'))⟩
/-- What is known of the program. -/
structure PgK (x : Nd) (g : Nat) : Prop where
  gl : g ≤ 10000
  notes : AllN g (progR x)
  len : (progR x).length ≤ 2000
  pos : 0 < (progR x).length
theorem run_prog (B pg g : Nat) (F : Nat → Prop) (x : Nd) (text : ByteArray) (nt : Bool) (w : World) (hP : PgS w F pg x g) (hK : PgK x g) (hF : ∀ b, F b → b < w.heap.size) (hE : Env8 w B) (hB : B ≤ w.heap.size) (ht : text.size ≤ 1000000) :
    Calls Tryd.prog 29 #[.pointer (some ⟨pg, 0, none⟩), .string text, .bool nt] w fun e w' => ∃ p, e = .returned (.tuple #[.pointer p, .bool (runF (progR x) text nt).isSome]) ∧ Below w.heap.size w w' ∧ ∀ l, runF (progR x) text nt = some l → NtAt w' (fun _ => True) l p := by
  obtain ⟨ms, h1, h2⟩ := hP
  have hl : ms.length = (progR x).length := by rw [← h1, List.length_map]
  have h3 := hK.len
  have h4 := hK.pos
  have h9 := run_any B pg g F ms text nt w h2 hF (by rw [h1]; exact closed_prog x) (by omega) (by omega) hE hB ht
  rw [h1] at h9
  exact h9
set_option maxRecDepth 100000 in
theorem match_any (B pg g : Nat) (F : Nat → Prop) (x : Nd) (text : ByteArray) (w : World) (hP : PgS w F pg x g) (hK : PgK x g) (hF : ∀ b, F b → b < w.heap.size) (hE : Env8 w B) (hB : B ≤ w.heap.size) (ht : text.size ≤ 1000000) :
    Calls Tryd.prog 12 #[.pointer (some ⟨pg, 0, none⟩), .string text] w fun e w' => e = .returned (.bool (runF (progR x) text false).isSome) ∧ Below w.heap.size w w' := by
  have HR := hide (run_prog B pg g F x text false w hP hK hF hE hB ht)
  clear hP hK hF hE
  generalize runF (progR x) text false = R at *
  go_enter Tryd.func12, Tryd.ntmps12
  go_wp2_with (go_at_call 29; refine HR.out.mono ?_; clear HR; rintro e w1 ⟨p, rfl, hb, -⟩; have HB := hide hb; clear hb)
  go_ret
  exact ⟨rfl, HB.out⟩
set_option maxRecDepth 100000 in
theorem count_any (pg g : Nat) (F : Nat → Prop) (x : Nd) (w : World) (hP : PgS w F pg x g) :
    Calls Tryd.prog 20 #[.pointer (some ⟨pg, 0, none⟩)] w fun e w' => e = .returned (.int .i64 g) ∧ w' = w := by
  obtain ⟨ms, -, h2⟩ := hP
  obtain ⟨va, c, h1, -⟩ := h2.blk
  have p1 : w.cell? ⟨pg, 1, none⟩ = some (.int .i64 g) := by rw [cell_of_heap h1]; rfl
  clear h1 h2
  go_enter Tryd.func20, Tryd.ntmps20
  go_wp2
  go_ret
  exact ⟨rfl, rfl⟩
/-- A place is noted, if none was noted there. -/
def putG (L : List Int) (q : Nat × Nat) : List Int := if L.getD q.1 0 < 0 then L.set q.1 q.2 else L
def grpF (L : List Int) (l : List (Nat × Nat)) : List Int := l.foldl putG L
def begG (N E : Nat) : List Int := ((List.replicate N (-1 : Int)).set 0 0).set 1 E
/-- The places of the whole and of its groups; none: it does not mean the text. -/
def groupsF (x : Nd) (g : Nat) (text : ByteArray) : Option (List Int) := (runF (progR x) text true).map (grpF (begG (2 * (g + 1)) text.size))
theorem putG_len (L : List Int) (q : Nat × Nat) : (putG L q).length = L.length := by unfold putG; split <;> simp
theorem NtAt.lt {W : World} : ∀ {l : List (Nat × Nat)} {p : Option Addr}, NtAt W (fun _ => True) l p → NtAt W (fun b => b < W.heap.size) l p
  | [], p, h => h
  | (k, a) :: l, p, h => by
    obtain ⟨b, q, e, h1, h2, h3⟩ := h
    refine ⟨b, q, e, ?_, h2, NtAt.lt h3⟩
    obtain ⟨h4, -⟩ := Array.getElem?_eq_some_iff.1 h2
    exact h4
/-- The places under way. -/
structure PlS (w : World) (b : Nat) (L : List Int) (W : World) : Prop where
  row : W.heap[b]? = some (.cells (L.map (Value.int .i64)).toArray 3)
  below : Below w.heap.size w W
theorem PlS.set {w W : World} {b : Nat} {L : List Int} (h : PlS w b L W) (hb : w.heap.size ≤ b) (k : Nat) (v : Int) {x : Value} (hx : x = .int .i64 v) : PlS w b (L.set k v) (W.setCell ⟨b, k, none⟩ x) := by
  subst hx
  refine ⟨?_, h.below.setCell (p := ⟨b, k, none⟩) hb _⟩
  rw [heap_setCell_same h.row, List.map_set]
  congr 1
  congr 1
  apply Array.toList_inj.1
  simp [Array.set!]
theorem PlS.cell {w W : World} {b : Nat} {L : List Int} (h : PlS w b L W) (k : Nat) (hk : k < L.length) : W.cell? ⟨b, k, none⟩ = some (.int .i64 (L.getD k 0)) := by
  rw [cell_of_heap h.row]
  simp [List.getD, List.getElem?_eq_getElem hk]
theorem PlS.frozen {w W : World} {b : Nat} {L : List Int} (h : PlS w b L W) (k : Nat) : W.frozen? ⟨b, k, none⟩ = false := frozen_of_heap h.row
theorem PlS.drewN {w W : World} {b : Nat} {L : List Int} (h : PlS w b L W) (q : Nat) : PlS w b L (W.drewN q) := ⟨h.row, below_drewN h.below q⟩
set_option maxRecDepth 100000 in
set_option maxHeartbeats 1600000 in
theorem groups_any (B pg g : Nat) (F : Nat → Prop) (x : Nd) (text : ByteArray) (w : World) (hP : PgS w F pg x g) (hK : PgK x g) (hF : ∀ b, F b → b < w.heap.size) (hE : Env8 w B) (hB : B ≤ w.heap.size) (ht : text.size ≤ 1000000) :
    Calls Tryd.prog 18 #[.pointer (some ⟨pg, 0, none⟩), .string text] w fun e w' => Below w.heap.size w w' ∧ match groupsF x g text with
      | none => e = .returned (.tuple #[.slice none 0 0, .bool false])
      | some L => ∃ b, w.heap.size ≤ b ∧ e = .returned (.tuple #[.slice (some ⟨b, 0, none⟩) (2 * (g + 1)) (2 * (g + 1)), .bool true]) ∧ w'.heap[b]? = some (.cells (L.map (Value.int .i64)).toArray 3) ∧ L.length = 2 * (g + 1) := by
  have HR := hide (run_prog B pg g F x text true w hP hK hF hE hB ht)
  have hg := hK.gl
  have HOK := hide (fun l h => run_ok hK.notes text true l h)
  obtain ⟨ms, -, h2⟩ := hP
  obtain ⟨va, c, h1, -⟩ := h2.blk
  have p1 : w.cell? ⟨pg, 1, none⟩ = some (.int .i64 g) := by rw [cell_of_heap h1]; rfl
  have hpl : pg < w.heap.size := hF _ h2.foot
  clear h1 h2 hK hF hE
  have hgf : groupsF x g text = (runF (progR x) text true).map (grpF (begG (2 * (g + 1)) text.size)) := rfl
  rw [hgf]
  clear hgf
  generalize runF (progR x) text true = R at *
  obtain ⟨N, hN⟩ : ∃ N, N = 2 * (g + 1) := ⟨_, rfl⟩
  rw [← hN]
  have hNz : (2 : Int) * ((g : Int) + 1) = (N : Int) := by omega
  cases R with
  | none =>
    clear hN hNz
    go_enter Tryd.func18, Tryd.ntmps18
    go_wp2_with (go_at_call 29; refine HR.out.mono ?_; clear HR; rintro e w1 ⟨p, rfl, hb, -⟩; have HB := hide hb; clear hb)
    go_ret2
    exact ⟨HB.out, rfl⟩
  | some l =>
    have HOK := hide (HOK.out l rfl)
    have hN2 : 2 ≤ N := by omega
    have hN5 : N ≤ 100000 := by omega
    have HN := hide hN
    clear hN
    change Calls Tryd.prog 18 #[.pointer (some ⟨pg, 0, none⟩), .string text] w fun e w' => Below w.heap.size w w' ∧ ∃ b, w.heap.size ≤ b ∧ e = .returned (.tuple #[.slice (some ⟨b, 0, none⟩) N N, .bool true]) ∧ w'.heap[b]? = some (.cells ((grpF (begG N text.size) l).map (Value.int .i64)).toArray 3) ∧ (grpF (begG N text.size) l).length = N
    obtain ⟨GG, hGG⟩ : ∃ GG, GG = grpF (begG N text.size) l := ⟨_, rfl⟩
    rw [← hGG]
    have HGG := hide hGG
    clear hGG
    go_enter Tryd.func18, Tryd.ntmps18
    go_wp2_with (first
      | (go_at_call 29; refine HR.out.mono ?_; clear HR; rintro e w1 ⟨p, rfl, hb, hnt⟩; have HNT := hide (NtAt.lt (hnt l rfl)); have p1' := (hb.cell (p := ⟨pg, 1, none⟩) hpl).trans p1; have hpl' := Nat.lt_of_lt_of_le hpl hb.size; have HB := hide hb; clear hb hnt; have HREP : Hid (∀ W, W = w1.alloc (.cells #[.int .i64 (-1)] 3) → Calls Tryd.prog 30 #[.slice (some ⟨w1.heap.size, 0, none⟩) 1 1, .int .i64 N] W fun e w' => e = .returned (.slice (some ⟨w1.heap.size + 1, 0, none⟩) N N) ∧ w'.heap[w1.heap.size + 1]? = some (.cells (fillR N N).toArray 3) ∧ Below w1.heap.size w1 w') := fun W hW => by
          have hsz : W.heap.size = w1.heap.size + 1 := by rw [hW]; simp
          have h9 := repeat_any N w1.heap.size W hN2 hN5 (by subst hW; rw [cell_of_heap (heap_alloc_new _ _)]; rfl) (by omega)
          rw [hsz] at h9
          refine h9.mono ?_
          rintro e w' ⟨h1, h2, h3⟩
          refine ⟨h1, h2, ?_⟩
          have h4 : Below w1.heap.size w1 W := by rw [hW]; exact (Below.refl _ w1).alloc (Nat.le_refl _) _
          exact h4.trans (h3.mono (by omega)))
      | (go_at_call 30; refine (HREP.out _ rfl).mono ?_; clear HREP; rintro e w2 ⟨rfl, hr2, hb2⟩
         have hp2 : PlS w (w1.heap.size + 1) (List.replicate N (-1)) w2 := ⟨by rw [hr2]; simp [fillR], HB.out.trans (hb2.mono HB.out.size)⟩
         have HP2 := hide hp2
         have HNT2 : Hid (NtAt w2 (fun b => b < w1.heap.size) l p) := HNT.out.to (fun _ h => h) (fun b hb => hb2.block b hb)
         have c0 := hp2.cell 0 (by simp; omega)
         have c1 := hp2.cell 1 (by simp; omega)
         have f0 := hp2.frozen 0
         have f1 := hp2.frozen 1
         clear hr2 hb2 hp2 HNT))
    have hbw := HB.out.size
    have hs0 := (HP2.out.set (Nat.le_succ_of_le hbw) 0 0 rfl).set (Nat.le_succ_of_le hbw) 1 (text.size : Int) rfl
    obtain ⟨W3, hW3⟩ : ∃ W3, W3 = (w2.setCell ⟨w1.heap.size + 1, 0, none⟩ (Value.int .i64 0)).setCell ⟨w1.heap.size + 1, 1, none⟩ (.int .i64 text.size) := ⟨_, rfl⟩
    have hnt3 : NtAt W3 (fun b => b < w1.heap.size) l p := HNT2.out.to (fun _ h => h) (fun q hq => by have hq : q < w1.heap.size := hq; rw [hW3, Below.heap_setCell _ _ _ _ (by show q ≠ w1.heap.size + 1; omega), Below.heap_setCell _ _ _ _ (by show q ≠ w1.heap.size + 1; omega)])
    rw [← hW3] at hs0 ⊢
    have HL0 : Hid (PlS w (w1.heap.size + 1) (begG N text.size) W3 ∧ (begG N text.size).length = N ∧ ThOk g l ∧ grpF (begG N text.size) l = GG ∧ NtAt W3 (fun b => b < w1.heap.size) l p) := ⟨hs0, by unfold begG; simp, HOK.out, HGG.out.symm, hnt3⟩
    clear hs0 hW3 hnt3 HNT2 HP2 c0 c1 f0 f1 HOK
    go_loopg [9] (l.length + 1) (fun gh nv wx => ∃ (l' : List (Nat × Nat)) (L : List Int) (p' : Option Addr), nv = .pointer p' ∧ l'.length < gh ∧ Hid (PlS w (w1.heap.size + 1) L wx ∧ L.length = N ∧ ThOk g l' ∧ grpF L l' = GG ∧ NtAt wx (fun b => b < w1.heap.size) l' p'))
    case atStart => exact ⟨l, _, p, rfl, Nat.lt_succ_self _, HL0⟩
    case round =>
      clear HL0
      obtain ⟨l', L, p', rfl, hlg, HL⟩ := hrel
      cases gk with
      | zero => exact absurd hlg (Nat.not_lt_zero _)
      | succ gh =>
        cases l' with
        | nil =>
          obtain ⟨h1, h2, h3, h4, h5⟩ := HL.out
          have h5 : p' = none := h5
          subst h5
          have h4 : L = GG := h4
          subst h4
          have HL2 := hide (And.intro h1 h2)
          clear h1 h2 h3 HL
          go_wp2
          go_ret2
          exact ⟨HL2.out.1.below, _, Nat.le_succ_of_le hbw, rfl, HL2.out.1.row, HL2.out.2⟩
        | cons q l'' =>
          obtain ⟨k, a⟩ := q
          obtain ⟨h1, h2, h3, h4, h5⟩ := HL.out
          obtain ⟨nb, q, rfl, hnb, hbl, hnt⟩ := h5
          have hnb : nb < w1.heap.size := hnb
          have z0 : wr.cell? ⟨nb, 0, none⟩ = some (.int .i64 k) := by rw [cell_of_heap hbl]; rfl
          have z1 : wr.cell? ⟨nb, 1, none⟩ = some (.int .i64 a) := by rw [cell_of_heap hbl]; rfl
          have z2 : wr.cell? ⟨nb, 2, none⟩ = some (.pointer q) := by rw [cell_of_heap hbl]; rfl
          have hk2 : k < 2 * (g + 1) := h3 (k, a) (List.mem_cons_self ..)
          have hkN : k < N := by rw [HN.out]; exact hk2
          have hkz : (k : Int) < N := by omega
          have v0 := h1.cell k (by omega)
          have f0 := h1.frozen k
          have hne : nb ≠ w1.heap.size + 1 := by omega
          have hne2 : w1.heap.size + 1 ≠ nb := by omega
          have HTH : Hid (ThOk g l'') := fun q hq => h3 q (List.mem_cons_of_mem _ hq)
          have h4 : grpF (putG L (k, a)) l'' = GG := h4
          have hpu : putG L (k, a) = if L.getD k 0 < 0 then L.set k a else L := rfl
          have HL2 := hide (And.intro h1 (And.intro h2 (And.intro h4 (And.intro hpu hnt))))
          have hll : l''.length < gh := by simpa using hlg
          clear h1 h2 h3 h4 hbl hk2 hpu hnt HL
          generalize L.getD k 0 = V at *
          by_cases hV : V < 0
          · go_wp2
            go_region
            all_goals
              go_wp2
              go_roundg gh
              case measure => omega
              case rel =>
                obtain ⟨g1, g2, g3, g4, g5⟩ := HL2.out
                rw [if_pos hV] at g4
                rw [g4] at g3
                exact ⟨l'', L.set k a, q, rfl, hll, ⟨(g1.set (Nat.le_succ_of_le hbw) k (a : Int) rfl).drewN 1, by rw [List.length_set]; exact g2, HTH.out, g3, NtAt.to (W := wr) (W' := (wr.setCell ⟨w1.heap.size + 1, k, none⟩ (.int .i64 (a : Int))).drew) (fun _ h => h) (fun c hc => Below.heap_setCell wr ⟨w1.heap.size + 1, k, none⟩ (.int .i64 (a : Int)) c (by have hc : c < w1.heap.size := hc; show c ≠ w1.heap.size + 1; omega)) g5⟩⟩
          · go_wp2
            go_roundg gh
            case measure => omega
            case rel =>
              obtain ⟨g1, g2, g3, g4, g5⟩ := HL2.out
              rw [if_neg (by omega)] at g4
              rw [g4] at g3
              exact ⟨l'', L, q, rfl, hll, ⟨g1, g2, HTH.out, g3, g5⟩⟩
end Go.Proofs.YtmbkcmfcdjccoaaDoor
