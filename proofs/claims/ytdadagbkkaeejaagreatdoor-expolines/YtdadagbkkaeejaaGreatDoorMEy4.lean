/- ReadLine of any text. -/
import Derived.Test.YtdadagbkkaeejaaGreatDoorMEy2
import Derived.Test.YtdadagbkkaeejaaGreatDoorSv
namespace Go.Proofs.YtdadagbkkaeejaaGreatDoor
open Go.RowKit Go.Maps
attribute [local go_sem] run_store_float

theorem index10 : ∀ l : List UInt8, (¬ (10 : UInt8) ∈ l ∧ Lib.indexByte l 10 = -1) ∨ ((10 : UInt8) ∈ l ∧ ∃ i : Nat, Lib.indexByte l 10 = i ∧ l.take i = l.takeWhile (fun c => c != 10))
  | [] => .inl ⟨by simp, rfl⟩
  | c :: t => by
    by_cases hc : c = 10
    · subst hc
      exact .inr ⟨by simp, 0, by simp [Lib.indexByte], by simp⟩
    · have hb : (c == 10) = false := by simpa using hc
      rcases index10 t with ⟨h1, h2⟩ | ⟨h1, i, h2, h3⟩
      · refine .inl ⟨?_, by simp [Lib.indexByte, hb, h2]⟩
        rw [List.mem_cons]
        rintro (h | h)
        · exact hc h.symm
        · exact h1 h
      · refine .inr ⟨List.mem_cons_of_mem _ h1, i + 1, ?_, ?_⟩
        · have : ((i : Int) == -1) = false := by simp
          simp only [Lib.indexByte, hb, h2, this]
          simp
        · have hb2 : (c != 10) = true := by simpa using hc
          rw [List.take_succ_cons, List.takeWhile_cons, hb2, h3]
          rfl
theorem cut_no {s : ByteArray} (h : ¬ (10 : UInt8) ∈ s.data.toList) : Lib.cut s.data.toList [10] = (s.data.toList, [], false) := by
  unfold Lib.cut
  rcases index10 s.data.toList with ⟨h1, h2⟩ | ⟨h1, _⟩
  · rw [Lib.index_one, h2, if_neg (by omega)]
  · exact absurd h1 h
theorem cut_at {s : ByteArray} (h : (10 : UInt8) ∈ s.data.toList) : ∃ t, Lib.cut s.data.toList [10] = (s.data.toList.takeWhile (fun c => c != 10), t, true) := by
  unfold Lib.cut
  rcases index10 s.data.toList with ⟨h1, _⟩ | ⟨_, i, h2, h3⟩
  · exact absurd h h1
  · rw [Lib.index_one, h2, if_pos (by omega)]
    exact ⟨_, by rw [Int.toNat_natCast, h3]⟩
theorem front_size (s : ByteArray) : (frontB s).size ≤ s.size := by
  show (s.data.toList.takeWhile _).toArray.size ≤ _
  rw [List.size_toArray]
  have := (List.takeWhile_prefix (l := s.data.toList) (fun c : UInt8 => c != 10)).length_le
  rwa [len_list] at this

set_option maxRecDepth 100000 in
theorem res_read (tmps : Array Value) (b : Nat) (p e : Int) (hp : tmps.getD 2 undef = .pointer (some ⟨b, 0, none⟩)) (h3 : tmps.getD 3 undef = .int .i64 p) (h4 : tmps.getD 4 undef = .int .i64 e) (W : World) (v0 v1 v2 v3 : Value) (hb : W.heap[b]? = some (.cells #[v0, v1, v2, v3] 35 (0, 0))) :
    (results Tryz.f11 tmps).run Tryz.prog W = .ok (.tuple #[.agg #[v0, v1, v2, v3], .int .i64 p, .int .i64 e]) W := by
  have hp' : tmps[2]?.getD undef = .pointer (some ⟨b, 0, none⟩) := by simpa using hp
  have h3' : tmps[3]?.getD undef = .int .i64 p := by simpa using h3
  have h4' : tmps[4]?.getD undef = .int .i64 e := by simpa using h4
  have hc0 : W.cell? ⟨b, 0, none⟩ = some v0 := by simp [World.cell?, hb]
  have hc1 : W.cell? ⟨b, 1, none⟩ = some v1 := by simp [World.cell?, hb]
  have hc2 : W.cell? ⟨b, 2, none⟩ = some v2 := by simp [World.cell?, hb]
  have hc3 : W.cell? ⟨b, 3, none⟩ = some v3 := by simp [World.cell?, hb]
  simp [results, Tryz.results11, hp', h3', h4', go_sem, hc0, hc1, hc2, hc3]

/-- What is answered of any text. -/
def RdP (w : World) (R : LRes) (e : Ending) (w' : World) : Prop := match R with
  | .bad p er => e = .returned (.tuple #[.agg #[.slice none 0 0, .float .f64 0, .int .i64 0, .bool false], .int .i64 p, .int .i64 er]) ∧ er ≠ 0
  | .ok ls V T h => ∃ a n c, e = .returned (.tuple #[.agg #[.slice a n c, .float .f64 V, .int .i64 T, .bool h], .int .i64 0, .int .i64 0]) ∧ w'.ownsRow w.heap.size 62 2 (.slice a n c) ls.length (lbCells ls)
/-- The answer's box and the cursor. -/
structure RdS (w W : World) (f : ByteArray) (j : Nat) : Prop where
  cur : Cur W (w.heap.size + 1) f j
  box : W.heap[w.heap.size]? = some (.cells #[.slice none 0 0, .float .f64 0, .int .i64 0, .bool false] 35)
  bel : Below w.heap.size w W
theorem RdS.alloc {w W : World} {f : ByteArray} {j : Nat} (h : RdS w W f j) (o : Obj) : RdS w (W.alloc o) f j := by
  have hb : Below W.heap.size W (W.alloc o) := (Below.refl _ _).alloc (Nat.le_refl _) _
  have h1 := h.cur.lt
  exact ⟨(hb.block _ h1).trans h.cur, (hb.block _ (by omega)).trans h.box, h.bel.alloc h.bel.size _⟩
theorem RdS.drewN {w W : World} {f : ByteArray} {j : Nat} (h : RdS w W f j) (q : Nat) : RdS w (W.drewN q) f j := ⟨h.cur.drewN q, h.box, below_drewN h.bel q⟩
theorem RdS.set {w W : World} {f : ByteArray} {j : Nat} (h : RdS w W f j) (a b c d : Value) :
    ((((W.setCell ⟨w.heap.size, 0, none⟩ a).setCell ⟨w.heap.size, 1, none⟩ b).setCell ⟨w.heap.size, 2, none⟩ c).setCell ⟨w.heap.size, 3, none⟩ d).heap[w.heap.size]? = some (.cells #[a, b, c, d] 35 (0, 0)) ∧ Kept (fun k => k = w.heap.size) W ((((W.setCell ⟨w.heap.size, 0, none⟩ a).setCell ⟨w.heap.size, 1, none⟩ b).setCell ⟨w.heap.size, 2, none⟩ c).setCell ⟨w.heap.size, 3, none⟩ d) ∧ Below w.heap.size w ((((W.setCell ⟨w.heap.size, 0, none⟩ a).setCell ⟨w.heap.size, 1, none⟩ b).setCell ⟨w.heap.size, 2, none⟩ c).setCell ⟨w.heap.size, 3, none⟩ d) :=
  ⟨setOf (setOf (setOf (setOf h.box _) _) _) _, ((((Kept.refl (fun k => k = w.heap.size) W).setCell (p := ⟨w.heap.size, 0, none⟩) (fun _ => rfl) a).setCell (p := ⟨w.heap.size, 1, none⟩) (fun _ => rfl) b).setCell (p := ⟨w.heap.size, 2, none⟩) (fun _ => rfl) c).setCell (p := ⟨w.heap.size, 3, none⟩) (fun _ => rfl) d,
    (((h.bel.setCell (p := ⟨w.heap.size, 0, none⟩) (Nat.le_refl _) a).setCell (p := ⟨w.heap.size, 1, none⟩) (Nat.le_refl _) b).setCell (p := ⟨w.heap.size, 2, none⟩) (Nat.le_refl _) c).setCell (p := ⟨w.heap.size, 3, none⟩) (Nat.le_refl _) d⟩
/-- The box's cells may be written, and the cursor's place be read. -/
def RdX (w W : World) (j : Nat) : Prop := W.cell? ⟨w.heap.size + 1, 1, none⟩ = some (.int .i64 j) ∧ W.cell? ⟨w.heap.size, 0, none⟩ = some (.slice none 0 0) ∧ W.cell? ⟨w.heap.size, 1, none⟩ = some (.float .f64 0) ∧ W.cell? ⟨w.heap.size, 2, none⟩ = some (.int .i64 0) ∧ W.cell? ⟨w.heap.size, 3, none⟩ = some (.bool false) ∧ W.frozen? ⟨w.heap.size, 0, none⟩ = false ∧ W.frozen? ⟨w.heap.size, 1, none⟩ = false ∧ W.frozen? ⟨w.heap.size, 2, none⟩ = false ∧ W.frozen? ⟨w.heap.size, 3, none⟩ = false
theorem RdS.x {w W : World} {f : ByteArray} {j : Nat} (h : RdS w W f j) : RdX w W j := ⟨h.cur.c1, by rw [cellOf h.box]; rfl, by rw [cellOf h.box]; rfl, by rw [cellOf h.box]; rfl, by rw [cellOf h.box]; rfl, frozenOf h.box, frozenOf h.box, frozenOf h.box, frozenOf h.box⟩
theorem RdS.start (w : World) (f : ByteArray) (q : Nat) : RdS w (((w.alloc (.cells #[.slice none 0 0, .float .f64 0, .int .i64 0, .bool false] 35)).drewN q).alloc (.cells #[.string f, .int .i64 0] 46)) f 0 := by
  have hb1 : Below w.heap.size w ((w.alloc (.cells #[.slice none 0 0, .float .f64 0, .int .i64 0, .bool false] 35)).drewN q) := below_drewN ((Below.refl _ _).alloc (Nat.le_refl _) _) q
  have hs1 : ((w.alloc (.cells #[.slice none 0 0, .float .f64 0, .int .i64 0, .bool false] 35)).drewN q).heap.size = w.heap.size + 1 := by simp
  have hx1 : ((w.alloc (.cells #[.slice none 0 0, .float .f64 0, .int .i64 0, .bool false] 35)).drewN q).heap[w.heap.size]? = some (.cells #[.slice none 0 0, .float .f64 0, .int .i64 0, .bool false] 35) := by
    have hk := (below_drewN (Below.refl (w.heap.size + 1) (w.alloc (.cells #[.slice none 0 0, .float .f64 0, .int .i64 0, .bool false] 35))) q).block w.heap.size (by omega)
    exact hk.trans (heap_alloc_new w _)
  generalize (w.alloc (.cells #[.slice none 0 0, .float .f64 0, .int .i64 0, .bool false] 35)).drewN q = W at *
  have hb2 : Below W.heap.size W (W.alloc (.cells #[.string f, .int .i64 0] 46)) := (Below.refl _ _).alloc (Nat.le_refl _) _
  refine ⟨?_, (hb2.block _ (by omega)).trans hx1, hb1.alloc hb1.size _⟩
  rw [← hs1]
  exact heap_alloc_new W _
theorem RdS.kept {w W W' : World} {f : ByteArray} {i j : Nat} (h : RdS w W f i) (hk : Kept (fun k => k = w.heap.size + 1) W W') (hc : Cur W' (w.heap.size + 1) f j) : RdS w W' f j :=
  ⟨hc, hk.heap h.box (by omega), ⟨hk.os.trans h.bel.os, hk.tape.trans h.bel.tape, hk.output.trans h.bel.output, Nat.le_trans h.bel.size hk.size, fun i hi => (hk.block i (Nat.lt_of_lt_of_le hi h.bel.size) (by omega)).trans (h.bel.block i hi)⟩⟩

/-- The cut ahead of it. -/
theorem cut_line (s : ByteArray) (hs : s.size ≤ 4000) : ∃ (f t : ByteArray) (m : Bool), f.size ≤ 4000 ∧ (∀ W, MaxL W → Calls Tryz.prog 15 #[.string s, .string ⟨#[10]⟩] W fun e w' => e = .returned (.tuple #[.string f, .string t, .bool m]) ∧ ∃ q, w' = W.drewN q) ∧
    (∀ p er, readR f = .bad p er → lineR s = .bad p er) ∧ (∀ ls V T h, readR f = .ok ls V T h → lineR s = if m = true then .bad f.size 8 else .ok ls V T h) := by
  have hc : ∀ W, MaxL W → _ := fun W hM => Any.strings_Cut Tryz.lays145 s ⟨#[10]⟩ hM.choose W (by omega) hM.choose_spec
  by_cases h : (10 : UInt8) ∈ s.data.toList
  · obtain ⟨t, ht⟩ := cut_at h
    have hfs := front_size s
    refine ⟨frontB s, ⟨t.toArray⟩, true, by omega, fun W hM => (hc W hM).mono ?_, fun p er hr => ?_, fun ls V T h' hr => ?_⟩
    · rintro e w' ⟨rfl, q⟩
      rw [show (⟨#[10]⟩ : ByteArray).data.toList = [10] from rfl, ht]
      exact ⟨rfl, q⟩
    · unfold lineR; rw [if_pos h, hr]
    · unfold lineR; rw [if_pos h, hr, if_pos rfl]
  · refine ⟨s, ⟨#[]⟩, false, hs, fun W hM => (hc W hM).mono ?_, fun p er hr => ?_, fun ls V T h' hr => ?_⟩
    · rintro e w' ⟨rfl, q⟩
      rw [show (⟨#[10]⟩ : ByteArray).data.toList = [10] from rfl, cut_no h]
      exact ⟨rfl, q⟩
    · unfold lineR; rw [if_neg h, hr]
    · unfold lineR; rw [if_neg h, hr, if_neg (by decide)]

set_option maxRecDepth 100000 in
set_option maxHeartbeats 4000000 in
theorem readLine_any (B : Nat) (s : ByteArray) (w : World) (hB : B ≤ w.heap.size) (hE : Env w B) (hs : s.size ≤ 4000) :
    Calls Tryz.prog 11 #[.string s] w fun e w' => RdP w (lineR s) e w' ∧ Below w.heap.size w w' := by
  obtain ⟨f, t, m, hf, hcut, hbad, hok⟩ := cut_line s hs
  have hcw := hcut (w.alloc (.cells #[.slice none 0 0, .float .f64 0, .int .i64 0, .bool false] 35)) (hE _ ((Below.refl _ _).alloc hB _)).2.2.2
  have HSM : Hid (∀ q, Calls Tryz.prog 16 #[.pointer (some ⟨w.heap.size + 1, 0, none⟩)] (((w.alloc (.cells #[.slice none 0 0, .float .f64 0, .int .i64 0, .bool false] 35)).drewN q).alloc (.cells #[.string f, .int .i64 0] 46)) fun e w' => (∀ p er, readR f = .bad p er → (∃ a n c V T h, e = .returned (.tuple #[.agg #[.slice a n c, .float .f64 V, .int .i64 T, .bool h], .int .i64 er])) ∧ er ≠ 0 ∧ RdS w w' f p) ∧ (∀ ls V T h, readR f = .ok ls V T h → ∃ a n c, e = .returned (.tuple #[.agg #[.slice a n c, .float .f64 V, .int .i64 T, .bool h], .int .i64 0]) ∧ w'.ownsRow (w.heap.size + 2) 62 2 (.slice a n c) ls.length (lbCells ls) ∧ RdS w w' f f.size)) := fun q => by
    have hst := RdS.start w f q
    have hsz : (((w.alloc (.cells #[.slice none 0 0, .float .f64 0, .int .i64 0, .bool false] 35)).drewN q).alloc (.cells #[.string f, .int .i64 0] 46)).heap.size = w.heap.size + 2 := by simp
    have hb2 := hst.bel
    have hc2 := hst.cur
    generalize ((w.alloc (.cells #[.slice none 0 0, .float .f64 0, .int .i64 0, .bool false] 35)).drewN q).alloc (.cells #[.string f, .int .i64 0] 46) = W2 at *
    refine (sample_any B (w.heap.size + 1) f W2 hc2 (by omega) (fun W hb => hE W ((hb2.mono hB).trans hb)) hf).mono ?_
    intro e w' hP
    refine ⟨fun p er hr => ?_, fun ls V T h hr => ?_⟩
    · rw [hr] at hP
      obtain ⟨h1, h2, h3, h4⟩ := hP
      exact ⟨h1, h2, hst.kept h4 h3⟩
    · rw [hr] at hP
      obtain ⟨a, n, c, h1, h2, h3, h4⟩ := hP
      rw [hsz] at h2
      exact ⟨a, n, c, h1, h2, hst.kept h4 h3⟩
  clear hcut hE hB
  cases hR : readR f with
  | bad p er =>
    rw [hbad p er hR]
    have HR : Hid (readR f = .bad p er) := hR
    clear hR hbad hok
    go_enter Tryz.func11, Tryz.ntmps11
    go_wp2_with (first
      | (go_at_call 15; refine hcw.mono ?_; clear hcw; rintro e w1 ⟨rfl, q, hw1⟩)
      | (go_at_call 16; refine (HSM.out _).mono ?_; clear HSM; intro e w3 hP; obtain ⟨⟨a, n, c, V, T, h, rfl⟩, hne, hS⟩ := hP.1 p er HR.out; have HS : Hid (RdS w (w3.alloc (.cells #[.slice a n c, .float .f64 V, .int .i64 T, .bool h] 35)) f p) := hS.alloc _; have HNE : Hid (er ≠ 0) := hne; have q1 := no_eq hne; have q2 := ne_eq hne; obtain ⟨x1, y0, y1, y2, y3, x2, x3, x4, x5⟩ := HS.out.x; clear hS hne hP))
    go_region
    all_goals go_wp2
    all_goals
      have HF := HS.out.set (.slice none 0 0) (.float .f64 0) (.int .i64 0) (.bool false)
      refine bodyPost_ret (res_read _ w.heap.size p er rfl rfl rfl _ _ _ _ _ HF.1) rfl ?_
      exact ⟨⟨rfl, HNE.out⟩, below_drewN HF.2.2 1⟩
  | ok ls V T h =>
    rw [hok ls V T h hR]
    have HR : Hid (readR f = .ok ls V T h) := hR
    clear hR hbad hok
    cases m with
    | true =>
      rw [if_pos rfl]
      go_enter Tryz.func11, Tryz.ntmps11
      go_wp2_with (first
        | (go_at_call 15; refine hcw.mono ?_; clear hcw; rintro e w1 ⟨rfl, q, hw1⟩)
        | (go_at_call 16; refine (HSM.out _).mono ?_; clear HSM; intro e w3 hP; obtain ⟨a, n, c, rfl, hrow, hS⟩ := hP.2 ls V T h HR.out; have HS : Hid (RdS w (w3.alloc (.cells #[.slice a n c, .float .f64 V, .int .i64 T, .bool h] 35)) f f.size) := hS.alloc _; have HROW : Hid (w3.ownsRow (w.heap.size + 2) 62 2 (.slice a n c) ls.length (lbCells ls)) := hrow; obtain ⟨x1, y0, y1, y2, y3, x2, x3, x4, x5⟩ := HS.out.x; have z := heap_alloc_new w3 (.cells #[.slice a n c, .float .f64 V, .int .i64 T, .bool h] 35); have z0 := World.news_of_block z 0 _ rfl; have z1 := World.news_of_block z 1 _ rfl; have z2 := World.news_of_block z 2 _ rfl; have z3 := World.news_of_block z 3 _ rfl; clear hS hP hrow z))
      go_region
      all_goals go_wp2
      all_goals
        have HF := HS.out.set (.slice none 0 0) (.float .f64 0) (.int .i64 0) (.bool false)
        refine bodyPost_ret (res_read _ w.heap.size f.size 8 rfl rfl rfl _ _ _ _ _ HF.1) rfl ?_
        exact ⟨⟨rfl, by decide⟩, below_drewN HF.2.2 1⟩
    | false =>
      rw [if_neg (by decide)]
      go_enter Tryz.func11, Tryz.ntmps11
      go_wp2_with (first
        | (go_at_call 15; refine hcw.mono ?_; clear hcw; rintro e w1 ⟨rfl, q, hw1⟩)
        | (go_at_call 16; refine (HSM.out _).mono ?_; clear HSM; intro e w3 hP; obtain ⟨a, n, c, rfl, hrow, hS⟩ := hP.2 ls V T h HR.out; have HS : Hid (RdS w (w3.alloc (.cells #[.slice a n c, .float .f64 V, .int .i64 T, .bool h] 35)) f f.size) := hS.alloc _; have HROW : Hid (w3.ownsRow (w.heap.size + 2) 62 2 (.slice a n c) ls.length (lbCells ls)) := hrow; obtain ⟨x1, y0, y1, y2, y3, x2, x3, x4, x5⟩ := HS.out.x; have z := heap_alloc_new w3 (.cells #[.slice a n c, .float .f64 V, .int .i64 T, .bool h] 35); have z0 := World.news_of_block z 0 _ rfl; have z1 := World.news_of_block z 1 _ rfl; have z2 := World.news_of_block z 2 _ rfl; have z3 := World.news_of_block z 3 _ rfl; clear hS hP hrow z))
      have HF := HS.out.set (.slice a n c) (.float .f64 V) (.int .i64 T) (.bool h)
      refine bodyPost_ret (res_read _ w.heap.size 0 0 rfl rfl rfl _ _ _ _ _ HF.1) rfl ?_
      have hb4 : Below w3.heap.size w3 (w3.alloc (.cells #[.slice a n c, .float .f64 V, .int .i64 T, .bool h] 35)) := (Below.refl _ _).alloc (Nat.le_refl _) _
      have hr4 := row_below HROW.out hb4
      have hr5 := HF.2.1.ownsRow hr4 (fun k hk => by have := row_lo hr4 k hk; omega)
      exact ⟨⟨a, n, c, rfl, row_mono hr5 (by omega)⟩, HF.2.2⟩
end Go.Proofs.YtdadagbkkaeejaaGreatDoor
