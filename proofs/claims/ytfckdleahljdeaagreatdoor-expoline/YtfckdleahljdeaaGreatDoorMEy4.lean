/- Texts that belong together. -/
import Derived.Test.YtfckdleahljdeaaGreatDoorMEy2
import Derived.Test.YtfckdleahljdeaaGreatDoorSv
import Derived.Test.YtfckdleahljdeaaGreatDoorMN2
/- ReadLine of any text. -/
namespace Go.Proofs.YtfckdleahljdeaaGreatDoor
open Go.RowKit Go.Maps
attribute [local go_sem] run_store_float

theorem index10 : ∀ l : List UInt8, (¬ (10 : UInt8) ∈ l ∧ Lib.indexByte l 10 = -1) ∨ ((10 : UInt8) ∈ l ∧ ∃ i : Nat, Lib.indexByte l 10 = i ∧ l.take i = l.takeWhile (fun c => c != 10))
  | [] => .inl ⟨by simp, rfl⟩
  | c :: t => by
    by_cases hc : c = 10
    · subst hc
      exact .inr ⟨by simp, 0, by simp [Lib.indexByte], by simp⟩
    · have hb : (c == 10) = false := by simpa using hc
      rcases index10 t with ⟨h1, h2⟩ | ⟨h1, i, h2, h3⟩
      · refine .inl ⟨?_, by simp [Lib.indexByte, hb, h2]⟩
        rw [List.mem_cons]
        rintro (h | h)
        · exact hc h.symm
        · exact h1 h
      · refine .inr ⟨List.mem_cons_of_mem _ h1, i + 1, ?_, ?_⟩
        · have : ((i : Int) == -1) = false := by simp
          simp only [Lib.indexByte, hb, h2, this]
          simp
        · have hb2 : (c != 10) = true := by simpa using hc
          rw [List.take_succ_cons, List.takeWhile_cons, hb2, h3]
          rfl
theorem cut_no {s : ByteArray} (h : ¬ (10 : UInt8) ∈ s.data.toList) : Lib.cut s.data.toList [10] = (s.data.toList, [], false) := by
  unfold Lib.cut
  rcases index10 s.data.toList with ⟨h1, h2⟩ | ⟨h1, _⟩
  · rw [Lib.index_one, h2, if_neg (by omega)]
  · exact absurd h1 h
theorem cut_at {s : ByteArray} (h : (10 : UInt8) ∈ s.data.toList) : ∃ t, Lib.cut s.data.toList [10] = (s.data.toList.takeWhile (fun c => c != 10), t, true) := by
  unfold Lib.cut
  rcases index10 s.data.toList with ⟨h1, _⟩ | ⟨_, i, h2, h3⟩
  · exact absurd h h1
  · rw [Lib.index_one, h2, if_pos (by omega)]
    exact ⟨_, by rw [Int.toNat_natCast, h3]⟩
theorem front_size (s : ByteArray) : (frontB s).size ≤ s.size := by
  show (s.data.toList.takeWhile _).toArray.size ≤ _
  rw [List.size_toArray]
  have := (List.takeWhile_prefix (l := s.data.toList) (fun c : UInt8 => c != 10)).length_le
  rwa [len_list] at this

set_option maxRecDepth 100000 in
theorem res_read (tmps : Array Value) (b : Nat) (p e : Int) (hp : tmps.getD 2 undef = .pointer (some ⟨b, 0, none⟩)) (h3 : tmps.getD 3 undef = .int .i64 p) (h4 : tmps.getD 4 undef = .int .i64 e) (W : World) (v0 v1 v2 v3 : Value) (hb : W.heap[b]? = some (.cells #[v0, v1, v2, v3] 28 (0, 0))) :
    (results Tryz.f5 tmps).run Tryz.prog W = .ok (.tuple #[.agg #[v0, v1, v2, v3], .int .i64 p, .int .i64 e]) W := by
  have hp' : tmps[2]?.getD undef = .pointer (some ⟨b, 0, none⟩) := by simpa using hp
  have h3' : tmps[3]?.getD undef = .int .i64 p := by simpa using h3
  have h4' : tmps[4]?.getD undef = .int .i64 e := by simpa using h4
  have hc0 : W.cell? ⟨b, 0, none⟩ = some v0 := by simp [World.cell?, hb]
  have hc1 : W.cell? ⟨b, 1, none⟩ = some v1 := by simp [World.cell?, hb]
  have hc2 : W.cell? ⟨b, 2, none⟩ = some v2 := by simp [World.cell?, hb]
  have hc3 : W.cell? ⟨b, 3, none⟩ = some v3 := by simp [World.cell?, hb]
  simp [results, Tryz.results5, hp', h3', h4', go_sem, hc0, hc1, hc2, hc3]

/-- What is answered of any text. -/
def RdP (w : World) (R : LRes) (e : Ending) (w' : World) : Prop := match R with
  | .bad p er => e = .returned (.tuple #[.agg #[.slice none 0 0, .float .f64 0, .int .i64 0, .bool false], .int .i64 p, .int .i64 er]) ∧ er ≠ 0
  | .ok ls V T h => ∃ a n c, e = .returned (.tuple #[.agg #[.slice a n c, .float .f64 V, .int .i64 T, .bool h], .int .i64 0, .int .i64 0]) ∧ w'.ownsRow w.heap.size 49 2 (.slice a n c) ls.length (lbCells ls)
/-- The answer's box and the cursor. -/
structure RdS (w W : World) (f : ByteArray) (j : Nat) : Prop where
  cur : Cur W (w.heap.size + 1) f j
  box : W.heap[w.heap.size]? = some (.cells #[.slice none 0 0, .float .f64 0, .int .i64 0, .bool false] 28)
  bel : Below w.heap.size w W
theorem RdS.alloc {w W : World} {f : ByteArray} {j : Nat} (h : RdS w W f j) (o : Obj) : RdS w (W.alloc o) f j := by
  have hb : Below W.heap.size W (W.alloc o) := (Below.refl _ _).alloc (Nat.le_refl _) _
  have h1 := h.cur.lt
  exact ⟨(hb.block _ h1).trans h.cur, (hb.block _ (by omega)).trans h.box, h.bel.alloc h.bel.size _⟩
theorem RdS.drewN {w W : World} {f : ByteArray} {j : Nat} (h : RdS w W f j) (q : Nat) : RdS w (W.drewN q) f j := ⟨h.cur.drewN q, h.box, below_drewN h.bel q⟩
theorem RdS.set {w W : World} {f : ByteArray} {j : Nat} (h : RdS w W f j) (a b c d : Value) :
    ((((W.setCell ⟨w.heap.size, 0, none⟩ a).setCell ⟨w.heap.size, 1, none⟩ b).setCell ⟨w.heap.size, 2, none⟩ c).setCell ⟨w.heap.size, 3, none⟩ d).heap[w.heap.size]? = some (.cells #[a, b, c, d] 28 (0, 0)) ∧ Kept (fun k => k = w.heap.size) W ((((W.setCell ⟨w.heap.size, 0, none⟩ a).setCell ⟨w.heap.size, 1, none⟩ b).setCell ⟨w.heap.size, 2, none⟩ c).setCell ⟨w.heap.size, 3, none⟩ d) ∧ Below w.heap.size w ((((W.setCell ⟨w.heap.size, 0, none⟩ a).setCell ⟨w.heap.size, 1, none⟩ b).setCell ⟨w.heap.size, 2, none⟩ c).setCell ⟨w.heap.size, 3, none⟩ d) :=
  ⟨setOf (setOf (setOf (setOf h.box _) _) _) _, ((((Kept.refl (fun k => k = w.heap.size) W).setCell (p := ⟨w.heap.size, 0, none⟩) (fun _ => rfl) a).setCell (p := ⟨w.heap.size, 1, none⟩) (fun _ => rfl) b).setCell (p := ⟨w.heap.size, 2, none⟩) (fun _ => rfl) c).setCell (p := ⟨w.heap.size, 3, none⟩) (fun _ => rfl) d,
    (((h.bel.setCell (p := ⟨w.heap.size, 0, none⟩) (Nat.le_refl _) a).setCell (p := ⟨w.heap.size, 1, none⟩) (Nat.le_refl _) b).setCell (p := ⟨w.heap.size, 2, none⟩) (Nat.le_refl _) c).setCell (p := ⟨w.heap.size, 3, none⟩) (Nat.le_refl _) d⟩
/-- The box's cells may be written, and the cursor's place be read. -/
def RdX (w W : World) (j : Nat) : Prop := W.cell? ⟨w.heap.size + 1, 1, none⟩ = some (.int .i64 j) ∧ W.cell? ⟨w.heap.size, 0, none⟩ = some (.slice none 0 0) ∧ W.cell? ⟨w.heap.size, 1, none⟩ = some (.float .f64 0) ∧ W.cell? ⟨w.heap.size, 2, none⟩ = some (.int .i64 0) ∧ W.cell? ⟨w.heap.size, 3, none⟩ = some (.bool false) ∧ W.frozen? ⟨w.heap.size, 0, none⟩ = false ∧ W.frozen? ⟨w.heap.size, 1, none⟩ = false ∧ W.frozen? ⟨w.heap.size, 2, none⟩ = false ∧ W.frozen? ⟨w.heap.size, 3, none⟩ = false
theorem RdS.x {w W : World} {f : ByteArray} {j : Nat} (h : RdS w W f j) : RdX w W j := ⟨h.cur.c1, by rw [cellOf h.box]; rfl, by rw [cellOf h.box]; rfl, by rw [cellOf h.box]; rfl, by rw [cellOf h.box]; rfl, frozenOf h.box, frozenOf h.box, frozenOf h.box, frozenOf h.box⟩
theorem RdS.start (w : World) (f : ByteArray) (q : Nat) : RdS w (((w.alloc (.cells #[.slice none 0 0, .float .f64 0, .int .i64 0, .bool false] 28)).drewN q).alloc (.cells #[.string f, .int .i64 0] 39)) f 0 := by
  have hb1 : Below w.heap.size w ((w.alloc (.cells #[.slice none 0 0, .float .f64 0, .int .i64 0, .bool false] 28)).drewN q) := below_drewN ((Below.refl _ _).alloc (Nat.le_refl _) _) q
  have hs1 : ((w.alloc (.cells #[.slice none 0 0, .float .f64 0, .int .i64 0, .bool false] 28)).drewN q).heap.size = w.heap.size + 1 := by simp
  have hx1 : ((w.alloc (.cells #[.slice none 0 0, .float .f64 0, .int .i64 0, .bool false] 28)).drewN q).heap[w.heap.size]? = some (.cells #[.slice none 0 0, .float .f64 0, .int .i64 0, .bool false] 28) := by
    have hk := (below_drewN (Below.refl (w.heap.size + 1) (w.alloc (.cells #[.slice none 0 0, .float .f64 0, .int .i64 0, .bool false] 28))) q).block w.heap.size (by omega)
    exact hk.trans (heap_alloc_new w _)
  generalize (w.alloc (.cells #[.slice none 0 0, .float .f64 0, .int .i64 0, .bool false] 28)).drewN q = W at *
  have hb2 : Below W.heap.size W (W.alloc (.cells #[.string f, .int .i64 0] 39)) := (Below.refl _ _).alloc (Nat.le_refl _) _
  refine ⟨?_, (hb2.block _ (by omega)).trans hx1, hb1.alloc hb1.size _⟩
  rw [← hs1]
  exact heap_alloc_new W _
theorem RdS.kept {w W W' : World} {f : ByteArray} {i j : Nat} (h : RdS w W f i) (hk : Kept (fun k => k = w.heap.size + 1) W W') (hc : Cur W' (w.heap.size + 1) f j) : RdS w W' f j :=
  ⟨hc, hk.heap h.box (by omega), ⟨hk.os.trans h.bel.os, hk.tape.trans h.bel.tape, hk.output.trans h.bel.output, Nat.le_trans h.bel.size hk.size, fun i hi => (hk.block i (Nat.lt_of_lt_of_le hi h.bel.size) (by omega)).trans (h.bel.block i hi)⟩⟩

/-- The cut ahead of it. -/
theorem cut_line (s : ByteArray) (hs : s.size ≤ 4000) : ∃ (f t : ByteArray) (m : Bool), f.size ≤ 4000 ∧ (∀ W, MaxL W → Calls Tryz.prog 9 #[.string s, .string ⟨#[10]⟩] W fun e w' => e = .returned (.tuple #[.string f, .string t, .bool m]) ∧ ∃ q, w' = W.drewN q) ∧
    (∀ p er, readR f = .bad p er → lineR s = .bad p er) ∧ (∀ ls V T h, readR f = .ok ls V T h → lineR s = if m = true then .bad f.size 8 else .ok ls V T h) := by
  have hc : ∀ W, MaxL W → _ := fun W hM => Any.strings_Cut Tryz.lays145 s ⟨#[10]⟩ hM.choose W (by omega) hM.choose_spec
  by_cases h : (10 : UInt8) ∈ s.data.toList
  · obtain ⟨t, ht⟩ := cut_at h
    have hfs := front_size s
    refine ⟨frontB s, ⟨t.toArray⟩, true, by omega, fun W hM => (hc W hM).mono ?_, fun p er hr => ?_, fun ls V T h' hr => ?_⟩
    · rintro e w' ⟨rfl, q⟩
      rw [show (⟨#[10]⟩ : ByteArray).data.toList = [10] from rfl, ht]
      exact ⟨rfl, q⟩
    · unfold lineR; rw [if_pos h, hr]
    · unfold lineR; rw [if_pos h, hr, if_pos rfl]
  · refine ⟨s, ⟨#[]⟩, false, hs, fun W hM => (hc W hM).mono ?_, fun p er hr => ?_, fun ls V T h' hr => ?_⟩
    · rintro e w' ⟨rfl, q⟩
      rw [show (⟨#[10]⟩ : ByteArray).data.toList = [10] from rfl, cut_no h]
      exact ⟨rfl, q⟩
    · unfold lineR; rw [if_neg h, hr]
    · unfold lineR; rw [if_neg h, hr, if_neg (by decide)]

set_option maxRecDepth 100000 in
set_option maxHeartbeats 4000000 in
theorem readLine_any (B : Nat) (s : ByteArray) (w : World) (hB : B ≤ w.heap.size) (hE : Env w B) (hs : s.size ≤ 4000) :
    Calls Tryz.prog 5 #[.string s] w fun e w' => RdP w (lineR s) e w' ∧ Below w.heap.size w w' := by
  obtain ⟨f, t, m, hf, hcut, hbad, hok⟩ := cut_line s hs
  have hcw := hcut (w.alloc (.cells #[.slice none 0 0, .float .f64 0, .int .i64 0, .bool false] 28)) (hE _ ((Below.refl _ _).alloc hB _)).2.2.2
  have HSM : Hid (∀ q, Calls Tryz.prog 10 #[.pointer (some ⟨w.heap.size + 1, 0, none⟩)] (((w.alloc (.cells #[.slice none 0 0, .float .f64 0, .int .i64 0, .bool false] 28)).drewN q).alloc (.cells #[.string f, .int .i64 0] 39)) fun e w' => (∀ p er, readR f = .bad p er → (∃ a n c V T h, e = .returned (.tuple #[.agg #[.slice a n c, .float .f64 V, .int .i64 T, .bool h], .int .i64 er])) ∧ er ≠ 0 ∧ RdS w w' f p) ∧ (∀ ls V T h, readR f = .ok ls V T h → ∃ a n c, e = .returned (.tuple #[.agg #[.slice a n c, .float .f64 V, .int .i64 T, .bool h], .int .i64 0]) ∧ w'.ownsRow (w.heap.size + 2) 49 2 (.slice a n c) ls.length (lbCells ls) ∧ RdS w w' f f.size)) := fun q => by
    have hst := RdS.start w f q
    have hsz : (((w.alloc (.cells #[.slice none 0 0, .float .f64 0, .int .i64 0, .bool false] 28)).drewN q).alloc (.cells #[.string f, .int .i64 0] 39)).heap.size = w.heap.size + 2 := by simp
    have hb2 := hst.bel
    have hc2 := hst.cur
    generalize ((w.alloc (.cells #[.slice none 0 0, .float .f64 0, .int .i64 0, .bool false] 28)).drewN q).alloc (.cells #[.string f, .int .i64 0] 39) = W2 at *
    refine (sample_any B (w.heap.size + 1) f W2 hc2 (by omega) (fun W hb => hE W ((hb2.mono hB).trans hb)) hf).mono ?_
    intro e w' hP
    refine ⟨fun p er hr => ?_, fun ls V T h hr => ?_⟩
    · rw [hr] at hP
      obtain ⟨h1, h2, h3, h4⟩ := hP
      exact ⟨h1, h2, hst.kept h4 h3⟩
    · rw [hr] at hP
      obtain ⟨a, n, c, h1, h2, h3, h4⟩ := hP
      rw [hsz] at h2
      exact ⟨a, n, c, h1, h2, hst.kept h4 h3⟩
  clear hcut hE hB
  cases hR : readR f with
  | bad p er =>
    rw [hbad p er hR]
    have HR : Hid (readR f = .bad p er) := hR
    clear hR hbad hok
    go_enter Tryz.func5, Tryz.ntmps5
    go_wp2_with (first
      | (go_at_call 9; refine hcw.mono ?_; clear hcw; rintro e w1 ⟨rfl, q, hw1⟩)
      | (go_at_call 10; refine (HSM.out _).mono ?_; clear HSM; intro e w3 hP; obtain ⟨⟨a, n, c, V, T, h, rfl⟩, hne, hS⟩ := hP.1 p er HR.out; have HS : Hid (RdS w (w3.alloc (.cells #[.slice a n c, .float .f64 V, .int .i64 T, .bool h] 28)) f p) := hS.alloc _; have HNE : Hid (er ≠ 0) := hne; have q1 := no_eq hne; have q2 := ne_eq hne; obtain ⟨x1, y0, y1, y2, y3, x2, x3, x4, x5⟩ := HS.out.x; clear hS hne hP))
    go_region
    all_goals go_wp2
    all_goals
      have HF := HS.out.set (.slice none 0 0) (.float .f64 0) (.int .i64 0) (.bool false)
      refine bodyPost_ret (res_read _ w.heap.size p er rfl rfl rfl _ _ _ _ _ HF.1) rfl ?_
      exact ⟨⟨rfl, HNE.out⟩, below_drewN HF.2.2 1⟩
  | ok ls V T h =>
    rw [hok ls V T h hR]
    have HR : Hid (readR f = .ok ls V T h) := hR
    clear hR hbad hok
    cases m with
    | true =>
      rw [if_pos rfl]
      go_enter Tryz.func5, Tryz.ntmps5
      go_wp2_with (first
        | (go_at_call 9; refine hcw.mono ?_; clear hcw; rintro e w1 ⟨rfl, q, hw1⟩)
        | (go_at_call 10; refine (HSM.out _).mono ?_; clear HSM; intro e w3 hP; obtain ⟨a, n, c, rfl, hrow, hS⟩ := hP.2 ls V T h HR.out; have HS : Hid (RdS w (w3.alloc (.cells #[.slice a n c, .float .f64 V, .int .i64 T, .bool h] 28)) f f.size) := hS.alloc _; have HROW : Hid (w3.ownsRow (w.heap.size + 2) 49 2 (.slice a n c) ls.length (lbCells ls)) := hrow; obtain ⟨x1, y0, y1, y2, y3, x2, x3, x4, x5⟩ := HS.out.x; have z := heap_alloc_new w3 (.cells #[.slice a n c, .float .f64 V, .int .i64 T, .bool h] 28); have z0 := World.news_of_block z 0 _ rfl; have z1 := World.news_of_block z 1 _ rfl; have z2 := World.news_of_block z 2 _ rfl; have z3 := World.news_of_block z 3 _ rfl; clear hS hP hrow z))
      go_region
      all_goals go_wp2
      all_goals
        have HF := HS.out.set (.slice none 0 0) (.float .f64 0) (.int .i64 0) (.bool false)
        refine bodyPost_ret (res_read _ w.heap.size f.size 8 rfl rfl rfl _ _ _ _ _ HF.1) rfl ?_
        exact ⟨⟨rfl, by decide⟩, below_drewN HF.2.2 1⟩
    | false =>
      rw [if_neg (by decide)]
      go_enter Tryz.func5, Tryz.ntmps5
      go_wp2_with (first
        | (go_at_call 9; refine hcw.mono ?_; clear hcw; rintro e w1 ⟨rfl, q, hw1⟩)
        | (go_at_call 10; refine (HSM.out _).mono ?_; clear HSM; intro e w3 hP; obtain ⟨a, n, c, rfl, hrow, hS⟩ := hP.2 ls V T h HR.out; have HS : Hid (RdS w (w3.alloc (.cells #[.slice a n c, .float .f64 V, .int .i64 T, .bool h] 28)) f f.size) := hS.alloc _; have HROW : Hid (w3.ownsRow (w.heap.size + 2) 49 2 (.slice a n c) ls.length (lbCells ls)) := hrow; obtain ⟨x1, y0, y1, y2, y3, x2, x3, x4, x5⟩ := HS.out.x; have z := heap_alloc_new w3 (.cells #[.slice a n c, .float .f64 V, .int .i64 T, .bool h] 28); have z0 := World.news_of_block z 0 _ rfl; have z1 := World.news_of_block z 1 _ rfl; have z2 := World.news_of_block z 2 _ rfl; have z3 := World.news_of_block z 3 _ rfl; clear hS hP hrow z))
      have HF := HS.out.set (.slice a n c) (.float .f64 V) (.int .i64 T) (.bool h)
      refine bodyPost_ret (res_read _ w.heap.size 0 0 rfl rfl rfl _ _ _ _ _ HF.1) rfl ?_
      have hb4 : Below w3.heap.size w3 (w3.alloc (.cells #[.slice a n c, .float .f64 V, .int .i64 T, .bool h] 28)) := (Below.refl _ _).alloc (Nat.le_refl _) _
      have hr4 := row_below HROW.out hb4
      have hr5 := HF.2.1.ownsRow hr4 (fun k hk => by have := row_lo hr4 k hk; omega)
      exact ⟨⟨a, n, c, rfl, row_mono hr5 (by omega)⟩, HF.2.2⟩
end Go.Proofs.YtfckdleahljdeaaGreatDoor

/- The document's naturals: to the base 10000, the lowest first. -/
namespace Go.Proofs.YtfckdleahljdeaaGreatDoor.Nu
open Go.RowKit Go.Maps

def i64s (ds : List Nat) : List Value := ds.map fun d => .int .i64 (d : Nat)
theorem i64s_append (a b : List Nat) : i64s (a ++ b) = i64s a ++ i64s b := by simp [i64s]
theorem infoI64 : (Tryz.prog.info? 3).map (fun i => (i.zero, i.size, i.bytes)) = some (some (.int .i64 0), 1, 8) := by kernel_rfl
/-- A row of one's own that holds these numbers. -/
def DRow (w : World) (base : Nat) (v : Value) (ds : List Nat) : Prop := w.ownsRow base 3 1 v ds.length (i64s ds)
/-- A slice that reads as these numbers. -/
def DAt (w : World) (v : Value) (ds : List Nat) : Prop := ∃ a c, v = .slice a ds.length c ∧ (ds.length ≤ c ∧ c ≤ maxLen) ∧ ∀ k (hk : k < ds.length), ∃ b o, a = some ⟨b, o, none⟩ ∧ b < w.heap.size ∧ w.cell? ⟨b, o + k, none⟩ = some (.int .i64 (ds[k] : Nat))
theorem DAt.one {w : World} {a : Option Addr} {c n : Nat} {ds : List Nat} (h : DAt w (.slice a n c) ds) (k : Nat) (hk : k < ds.length) {w' : World} (hb : Below w.heap.size w w') : ∃ b o, a = some ⟨b, o, none⟩ ∧ w'.cell? ⟨b, o + k, none⟩ = some (.int .i64 (ds[k] : Nat)) := by
  obtain ⟨a', c', e, -, hc⟩ := h
  cases e
  obtain ⟨b, o, rfl, hl, h1⟩ := hc k hk
  exact ⟨b, o, rfl, (hb.cell (p := ⟨b, o + k, none⟩) hl).trans h1⟩
theorem DAt.below {w w' : World} {v : Value} {ds : List Nat} (h : DAt w v ds) (hb : Below w.heap.size w w') : DAt w' v ds := by
  obtain ⟨a, c, e, hlc, hc⟩ := h
  refine ⟨a, c, e, hlc, fun k hk => ?_⟩
  obtain ⟨b, o, ea, hl, h1⟩ := hc k hk
  have := hb.size
  exact ⟨b, o, ea, by omega, (hb.cell (p := ⟨b, o + k, none⟩) hl).trans h1⟩
theorem DRow.below {w w' : World} {base : Nat} {v : Value} {ds : List Nat} (h : DRow w base v ds) (hb : Below w.heap.size w w') : DRow w' base v ds := row_below h hb
theorem DRow.at {w : World} {base : Nat} {v : Value} {ds : List Nat} (h : DRow w base v ds) : DAt w v ds := by
  rcases h.2 with ⟨e, h0⟩ | ⟨g, cap, cur, e, hg, hcur, hc1, hc2, _⟩
  · have : ds = [] := List.eq_nil_of_length_eq_zero h0
    subst this
    exact ⟨none, 0, e, ⟨Nat.zero_le _, Nat.zero_le _⟩, fun _ hk => absurd hk (Nat.not_lt_zero _)⟩
  · refine ⟨some ⟨g, 0, none⟩, cap, e, ⟨hc1, hc2⟩, fun k hk => ⟨g, 0, rfl, (Array.getElem?_eq_some_iff.1 hcur).1, ?_⟩⟩
    have := World.ownsRow.cells h (g := g) (by rw [e]; rfl) k (.int .i64 (ds[k] : Nat)) (by simp [i64s, hk])
    rw [Addr.add_lit] at this
    exact this
/-- append of one number. -/
theorem wpList_append_num (w : World) {ops : Array Oper} {rest : List Oper} {o : Oper} {a : Act} {Q : Exit → Act → World → Prop} (hgd : o.guard = none) (s x : Operand)
    (ho : o.op = .call { callee := .builtin .append, args := #[s, x], argTypes := #[105, 105] }) (base : Nat) (ao : Option Addr) (n co : Nat) (es : List Nat) (hs : a.eval s = .slice ao n co) (hrow : w.ownsRow base 3 1 (.slice ao n co) n (i64s es))
    (g : Nat) (z : Int) (y : Nat) (hzy : z = (y : Int)) (hx : a.eval x = .slice (some ⟨g, 0, none⟩) 1 1) (hg : w.heap[g]? = some (.cells #[.int .i64 z] 3 (0, 0))) (hl : n ≤ 100000) (hbase : base ≤ w.heap.size)
    (h : ∀ a' c' w', w'.ownsRow base 3 1 (.slice a' (n + 1) c') (n + 1) (i64s (es ++ [y])) → w.grownBy w' (Value.slice ao n co).ownBlock → wpList Tryz.prog ops Q rest (a.put o.dst (.slice a' (n + 1) c')) w') : wpList Tryz.prog ops Q (o :: rest) a w := by
  subst hzy
  obtain ⟨i0, hi0, hz0, hz1, hz2⟩ := info_parts infoI64
  refine wpList_append_own_at w hgd s x 105 ho base 3 i0 _ 1 8 Tryz.underlying105 hi0 hz0 hz1 hz2 rfl (by decide) (.slice ao n co) n (i64s es) hs hrow ⟨g, 0, none⟩ 1 1 [.int .i64 (y : Nat)] hx rfl (World.news_of_block (cs := #[.int .i64 (y : Nat)]) (t := 3) (fr := (0, 0)) hg) (by simp [Value.oneCell']) (by unfold maxLen; omega) (by omega) hbase ?_
  intro v1 w1 hr1 hg1 hnil1 hloc1
  obtain ⟨a1, c1, rfl⟩ := slice_of_row hr1
  refine h a1 c1 w1 ?_ hg1
  rw [i64s_append]
  exact hr1
/-- The digits of a number to the base 10000. -/
def digQ (n : Nat) : List Nat := if h : n = 0 then [] else n % 10000 :: digQ (n / 10000)
termination_by n
decreasing_by omega
def valQ : List Nat → Nat
  | [] => 0
  | d :: t => d + 10000 * valQ t
def okQ (ds : List Nat) : Prop := (∀ d ∈ ds, d < 10000) ∧ ds.getLast? ≠ some 0
/-- Digits times a small number, and more. -/
def tmQ (k : Nat) : List Nat → Nat → List Nat
  | [], c => digQ c
  | d :: t, c => (d * k + c) % 10000 :: tmQ k t ((d * k + c) / 10000)
theorem digQ_zero : digQ 0 = [] := by rw [digQ, dif_pos rfl]
theorem digQ_pos {n : Nat} (h : 0 < n) : digQ n = n % 10000 :: digQ (n / 10000) := by rw [digQ, dif_neg (by omega)]
theorem valQ_dig : ∀ (k n : Nat), n ≤ k → valQ (digQ n) = n
  | k, n, h => by
    by_cases h0 : n = 0
    · subst h0; rw [digQ_zero]; rfl
    · cases k with
      | zero => omega
      | succ k =>
        rw [digQ_pos (by omega), valQ, valQ_dig k (n / 10000) (by omega)]
        omega
theorem digQ_len : ∀ (j c : Nat), c < 10000 ^ j → (digQ c).length ≤ j
  | 0, c, h => by
    have : c = 0 := by simpa using h
    subst this
    rw [digQ_zero]
    simp
  | j + 1, c, h => by
    by_cases h0 : c = 0
    · subst h0; rw [digQ_zero]; simp
    · rw [digQ_pos (by omega), List.length_cons]
      have := digQ_len j (c / 10000) (by rw [Nat.pow_succ] at h; omega)
      omega
theorem tmQ_len {k : Nat} (hk : k ≤ 10000) : ∀ (ds : List Nat) (c : Nat), (∀ d ∈ ds, d < 10000) → c ≤ 4611686018427387904 → (tmQ k ds c).length ≤ ds.length + 5
  | [], c, _, hc => by
    rw [tmQ]
    have := digQ_len 5 c (by omega)
    simpa using this
  | d :: t, c, hd, hc => by
    rw [tmQ, List.length_cons, List.length_cons]
    have h1 : d * k ≤ 10000 * 10000 := Nat.mul_le_mul (Nat.le_of_lt (hd d (by simp))) hk
    have := tmQ_len hk t ((d * k + c) / 10000) (fun x hx => hd x (by simp [hx])) (by omega)
    omega
theorem tmQ_drop {k : Nat} {ds : List Nat} {i c : Nat} (hi : i < ds.length) : tmQ k (ds.drop i) c = (ds[i] * k + c) % 10000 :: tmQ k (ds.drop (i + 1)) ((ds[i] * k + c) / 10000) := by
  rw [List.drop_eq_getElem_cons hi, tmQ]
theorem digQ_lt : ∀ (k n : Nat), n ≤ k → ∀ d ∈ digQ n, d < 10000
  | k, n, h, d, hd => by
    by_cases h0 : n = 0
    · subst h0; rw [digQ_zero] at hd; simp at hd
    · cases k with
      | zero => omega
      | succ k =>
        rw [digQ_pos (by omega)] at hd
        rcases List.mem_cons.1 hd with rfl | h1
        · omega
        · exact digQ_lt k (n / 10000) (by omega) d h1
theorem tmQ_lt (k : Nat) : ∀ (ds : List Nat) (c : Nat), ∀ d ∈ tmQ k ds c, d < 10000
  | [], c, d, hd => digQ_lt c c (Nat.le_refl _) d hd
  | x :: t, c, d, hd => by
    rw [tmQ] at hd
    rcases List.mem_cons.1 hd with rfl | h1
    · omega
    · exact tmQ_lt k t _ d h1
theorem valQ_tm (k : Nat) : ∀ (ds : List Nat) (c : Nat), valQ (tmQ k ds c) = valQ ds * k + c
  | [], c => by rw [tmQ, valQ_dig c c (Nat.le_refl _)]; simp [valQ]
  | d :: t, c => by
    rw [tmQ, valQ, valQ, valQ_tm k t, Nat.add_mul, Nat.mul_add, Nat.mul_assoc]
    omega
end Go.Proofs.YtfckdleahljdeaaGreatDoor.Nu

/- The document's naturals: times a small number. -/
namespace Go.Proofs.YtfckdleahljdeaaGreatDoor.Nu
open Go.RowKit Go.Maps

set_option maxRecDepth 100000 in
set_option maxHeartbeats 400000 in
theorem refTimes_any (ds : List Nat) (a : Option Addr) (c k more : Nat) (w : World) (h : DAt w (.slice a ds.length c) ds) (hd : ∀ d ∈ ds, d < 10000) (hk : k ≤ 10000) (hm : more ≤ 4611686018427387904) (hl : ds.length ≤ 50000) :
    Calls Tryz.prog 74 #[.slice a ds.length c, .int .i64 k, .int .i64 more] w fun e w' => ∃ a' c', e = .returned (.slice a' (tmQ k ds more).length c') ∧ DRow w' w.heap.size (.slice a' (tmQ k ds more).length c') (tmQ k ds more) ∧ Below w.heap.size w w' := by
  have HA : Hid (DAt w (.slice a ds.length c) ds) := h
  have HD : Hid (∀ d ∈ ds, d < 10000) := hd
  have HTL : Hid ((tmQ k ds more).length ≤ ds.length + 5) := tmQ_len hk ds more hd hm
  obtain ⟨R, hR⟩ : ∃ R, R = tmQ k ds more := ⟨_, rfl⟩
  rw [← hR] at HTL ⊢
  have HR : Hid (R = tmQ k ds more) := hR
  clear h hd hR
  go_enter Tryz.func74, Tryz.ntmps74
  go_wp2
  go_loopw [7, 8, 9] (fun sv cv iv wr => ∃ (i : Nat) (rs : List Nat) (x : Nat) (ao : Option Addr) (co : Nat), i ≤ ds.length ∧ iv = .int .i64 i ∧ cv = .int .i64 x ∧ x ≤ 4611686018427387904 ∧ sv = .slice ao i co ∧ Hid (rs.length = i ∧ wr.ownsRow w.heap.size 3 1 (.slice ao i co) i (i64s rs) ∧ rs ++ tmQ k (ds.drop i) x = R ∧ Below w.heap.size w wr)) (fun _ _ iv _ => ds.length - (intOf iv).toNat)
  case atStart => exact ⟨0, [], more, none, 0, Nat.zero_le _, rfl, rfl, hm, rfl, rfl, World.ownsRow_nil _ _ _ _, by rw [HR.out]; rfl, Below.refl _ _⟩
  case round =>
    obtain ⟨i, rs, x, ao, co, hi, rfl, rfl, hx, rfl, hI⟩ := hrel
    obtain ⟨hrl, hrow, heq, hbl⟩ := hI.out
    have HRW : Hid (wr.ownsRow w.heap.size 3 1 (.slice ao i co) i (i64s rs)) := hrow
    have HBL : Hid (Below w.heap.size w wr) := hbl
    have hsz := hbl.size
    by_cases hlt : i < ds.length
    · obtain ⟨b1, o1, rfl, hc1⟩ := HA.out.one i hlt hbl
      rw [tmQ_drop hlt] at heq
      have hdl : ds[i] < 10000 := HD.out _ (List.getElem_mem hlt)
      obtain ⟨P, hP⟩ : ∃ P, P = ds[i] * k := ⟨_, rfl⟩
      have hPb : P ≤ 100000000 := by rw [hP]; exact Nat.mul_le_mul (Nat.le_of_lt hdl) hk
      have hPi : ((ds[i] : Nat) : Int) * (k : Int) = (P : Int) := by rw [hP, Int.natCast_mul]
      rw [← hP] at heq
      have HEQ : Hid ((rs ++ [(P + x) % 10000]) ++ tmQ k (ds.drop (i + 1)) ((P + x) / 10000) = R) := by show _ = _; rw [← heq]; simp
      have HL : Hid ((rs ++ [(P + x) % 10000]).length = i + 1) := by show _ = _; simp [hrl]
      clear hI hrow heq hbl hrl hP
      generalize ds[i] = d at *
      go_wp2_with (at_builtin; refine wpList_append_num _ rfl _ _ rfl w.heap.size ao i co rs rfl (World.ownsRow.alloc HRW.out _) wr.heap.size (((P : Int) + x) % 10000) ((P + x) % 10000) (by omega) rfl (heap_alloc_new wr _) (by omega) (by simp; omega) ?_; intro a3 c3 w3 hr3 hg3)
      go_roundw
      case rel =>
        refine ⟨i + 1, rs ++ [(P + x) % 10000], (P + x) / 10000, a3, c3, by omega, by go_num, by first | (congr 1; omega) | congr 1, by omega, rfl, HL.out, hr3, HEQ.out, ?_⟩
        exact (HBL.out.alloc hsz _).grown hg3 (by simp; omega) (fun j hj => (HRW.out.lt j hj).1)
      case measure => simp [intOf]; omega
    · obtain rfl : i = ds.length := by omega
      rw [List.drop_length, tmQ] at heq
      have HEQ : Hid (rs ++ digQ x = R) := heq
      have HRL : Hid (rs.length = ds.length) := hrl
      clear hI hrow heq hbl hrl hlt
      go_wp2
      go_loopw [7, 8] (fun sv cv wu => ∃ (n : Nat) (rs : List Nat) (x : Nat) (ao : Option Addr) (co : Nat), n ≤ 100000 ∧ cv = .int .i64 x ∧ x ≤ 4611686018427387904 ∧ sv = .slice ao n co ∧ Hid (rs.length = n ∧ wu.ownsRow w.heap.size 3 1 (.slice ao n co) n (i64s rs) ∧ rs ++ digQ x = R ∧ Below w.heap.size w wu)) (fun _ cv _ => (intOf cv).toNat)
      case atStart => exact ⟨ds.length, rs, x, ao, co, by omega, rfl, hx, rfl, HRL.out, HRW.out, HEQ.out, HBL.out⟩
      case round =>
        clear HRW HBL HEQ HRL hsz hx
        obtain ⟨n, rs, x, ao, co, hn, rfl, hx, rfl, hI⟩ := hrel
        obtain ⟨hrl, hrow, heq, hbl⟩ := hI.out
        have HRW : Hid (wr.ownsRow w.heap.size 3 1 (.slice ao n co) n (i64s rs)) := hrow
        have HBL : Hid (Below w.heap.size w wr) := hbl
        have hsz := hbl.size
        by_cases hpos : 0 < x
        · have hxi : (0 : Int) < x := by omega
          rw [digQ_pos hpos] at heq
          have hTL := HTL.out
          have hnb : n + 1 ≤ ds.length + 5 := by
            rw [← heq, List.length_append, List.length_cons, hrl] at hTL
            omega
          have HEQ : Hid ((rs ++ [x % 10000]) ++ digQ (x / 10000) = R) := by show _ = _; rw [← heq]; simp
          have HL : Hid ((rs ++ [x % 10000]).length = n + 1) := by show _ = _; simp [hrl]
          clear hI hrow heq hbl hrl hTL
          go_wp2_with (at_builtin; refine wpList_append_num _ rfl _ _ rfl w.heap.size ao n co rs rfl (World.ownsRow.alloc HRW.out _) wr.heap.size ((x : Int) % 10000) (x % 10000) (by omega) rfl (heap_alloc_new wr _) (by omega) (by simp; omega) ?_; intro a3 c3 w3 hr3 hg3)
          go_roundw
          case rel =>
            refine ⟨n + 1, rs ++ [x % 10000], x / 10000, a3, c3, by omega, by first | (congr 1; omega) | congr 1, by omega, rfl, HL.out, hr3, HEQ.out, ?_⟩
            exact (HBL.out.alloc hsz _).grown hg3 (by simp; omega) (fun j hj => (HRW.out.lt j hj).1)
          case measure => simp [intOf]; omega
        · obtain rfl : x = 0 := by omega
          rw [digQ_zero, List.append_nil] at heq
          subst heq
          subst hrl
          clear hI hrow hbl
          go_wp2
          go_ret
          exact ⟨_, _, rfl, HRW.out, HBL.out⟩
end Go.Proofs.YtfckdleahljdeaaGreatDoor.Nu
