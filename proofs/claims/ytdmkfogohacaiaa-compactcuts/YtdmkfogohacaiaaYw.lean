/- Cuts. -/
import Derived.Test.YtdmkfogohacaiaaYv
import Derived.Test.YtdmkfogohacaiaaYt
namespace Go.Proofs.Ytdmkfogohacaiaa
open Go.RowKit Go.Shelf Go.Maps Go.Sort

abbrev enI : Int → Value := Value.int .i64
def inC (l : List Int) : List Value := l.map enI
/-- A slice that reads as numbers. -/
def InAt (w : World) (v : Value) (l : List Int) : Prop := RowAt w v 1 l.length (inC l)
theorem inC_one (l : List Int) : ∀ u ∈ inC l, u.oneCell' = true := fun u hu => by
  simp only [inC, List.mem_map] at hu
  obtain ⟨x, _, rfl⟩ := hu
  rfl
theorem inC_at (l : List Int) (k : Nat) (hk : k < l.length) : (inC l)[k]? = some (.int .i64 l[k]) := by simp [inC, hk]
theorem inC_append (l m : List Int) : inC (l ++ m) = inC l ++ inC m := by simp [inC]
theorem InAt.one {w : World} {a : Option Addr} {c : Nat} {l : List Int} (h : InAt w (.slice a l.length c) l) (k : Nat) (hk : k < l.length) : ∃ b o, a = some ⟨b, o, none⟩ ∧ ∀ w', Below w.heap.size w w' → w'.cell? ⟨b, o + k, none⟩ = some (.int .i64 l[k]) :=
  RowAt.one h (inC_at l k hk)
theorem appIn : App Try.prog 22 3 1 := App.of (z := .int .i64 0) (bytes := 8) Try.underlying22 (by kernel_rfl) rfl (by decide) (by decide)

theorem holdsI {w : World} {g : Nat} {cur : Array Value} {e : TypeId} {l : List Int} (hb : w.heap[g]? = some (.cells cur e (0, 0))) (ht : cur.toList.take l.length = inC l) : Holds (Value.int .i64) w g 0 l.toArray := by
  intro j hj
  have hj' : j < l.length := by simpa using hj
  refine ⟨?_, by simp [World.frozen?, hb]⟩
  have h1 : (cur.toList.take l.length)[j]? = (inC l)[j]? := by rw [ht]
  rw [List.getElem?_take_of_lt hj', inC_at l j hj'] at h1
  simp only [World.cell?, hb, Nat.zero_add]
  rw [Array.getElem?_toList] at h1
  rw [h1]
  simp [hj']
theorem heapI {w : World} {g n : Nat} {os : Array Obj} {cur : Array Value} {e : TypeId} {fr : Nat × Nat} (d : Array Int) (hb : w.heap[g]? = some (.cells cur e fr)) :
    (grow (putRow (Value.int .i64) (Sort.ahead w n) g 0 d) os).heap[g]? = some (.cells (putCells (Value.int .i64) 0 d cur) e fr) := by
  have hg : g < w.heap.size := (Array.getElem?_eq_some_iff.1 hb).1
  rw [heap_grow_old _ _ (by simpa [putRow, mapBlock, Sort.ahead] using hg)]
  simp [putRow, mapBlock, Sort.ahead, Array.getElem?_modify, hb, onCells]
theorem grownI {w : World} {g n : Nat} {os : Array Obj} (d : Array Int) : Kept (fun i => i = g) w (grow (putRow (Value.int .i64) (Sort.ahead w n) g 0 d) os) := by
  refine ⟨rfl, rfl, rfl, by simp [putRow, mapBlock, Sort.ahead], fun k hk hne => ?_⟩
  rw [heap_grow_old _ _ (by simpa [putRow, mapBlock, Sort.ahead] using hk)]
  have : g ≠ k := fun e => hne e.symm
  simp [putRow, mapBlock, Sort.ahead, Array.getElem?_modify, this]
theorem takeI (cur : Array Value) (ts : List Int) (h : ts.length ≤ cur.size) : (putCells (Value.int .i64) 0 ts.toArray cur).toList.take ts.length = inC ts := by
  apply List.ext_getElem?
  intro j
  by_cases hj : j < ts.length
  · rw [List.getElem?_take_of_lt hj, Array.getElem?_toList, inC_at ts j hj]
    simp [putCells, hj, show j < cur.size by omega]
  · rw [List.getElem?_take_eq_none (by omega), List.getElem?_eq_none (by simp [inC]; omega)]

def srt (l : List Int) : List Int := l.mergeSort fun x y => decide (x ≤ y)

theorem sortI_any (a : Option Addr) (c : Nat) (l : List Int) (w : World) (base : Nat) (h : w.ownsRow base 3 1 (.slice a l.length c) l.length (inC l)) (hl : l.length ≤ 1000000) :
    Calls Try.prog 14 #[.slice a l.length c] w fun e w' => e = .returned (.tuple #[]) ∧ w'.ownsRow base 3 1 (.slice a l.length c) l.length (inC (srt l)) ∧ Kept (fun i => base ≤ i) w w' := by
  have hsl : (srt l).length = l.length := by simp [srt]
  rcases h.2 with ⟨e9, h0⟩ | ⟨g, cap, cur, e9, hbase, hb, h1, h2, h3, h4⟩
  · have hl0 : l = [] := List.eq_nil_of_length_eq_zero h0
    subst hl0
    cases e9
    refine (Any.slices_Sort_int_none Try.lays189 none 0 w).mono ?_
    rintro e w' ⟨rfl, rfl⟩
    exact ⟨rfl, ⟨by simp [srt, inC], Or.inl ⟨rfl, rfl⟩⟩, Kept.refl _ _⟩
  · cases e9
    have hgl : g < w.heap.size := (Array.getElem?_eq_some_iff.1 hb).1
    rw [Nat.mul_one] at h4
    refine (Any.slices_Sort_int Try.lays189 g 0 c l w (holdsI hb h4) hgl (by omega)).mono ?_
    rintro e w' ⟨rfl, n, os, rfl⟩
    refine ⟨rfl, ⟨by simp [inC, hsl], Or.inr ⟨g, c, putCells (Value.int .i64) 0 (srt l).toArray cur, rfl, hbase, heapI _ hb, h1, h2, by simp [putCells, h3], ?_⟩⟩, (grownI _).mono (fun i _ hi => by omega)⟩
    have := takeI cur (srt l) (by rw [hsl, h3]; omega)
    rw [hsl] at this
    rw [Nat.mul_one]
    exact this

theorem compactI_any (a : Option Addr) (c : Nat) (l : List Int) (w : World) (base : Nat) (h : w.ownsRow base 3 1 (.slice a l.length c) l.length (inC l)) (hl : l.length ≤ 1000000) (hcl : (Lib.compact l).length ≤ l.length) :
    Calls Try.prog 15 #[.slice a l.length c] w fun e w' => e = .returned (.slice a (Lib.compact l).length c) ∧ w'.ownsRow base 3 1 (.slice a (Lib.compact l).length c) (Lib.compact l).length (inC (Lib.compact l)) ∧ Kept (fun i => base ≤ i) w w' := by
  rcases h.2 with ⟨e9, h0⟩ | ⟨g, cap, cur, e9, hbase, hb, h1, h2, h3, h4⟩
  · have hl0 : l = [] := List.eq_nil_of_length_eq_zero h0
    subst hl0
    cases e9
    have hc0 : (Lib.compact ([] : List Int)).length = 0 := by simp at hcl; simpa using hcl
    have hc1 : Lib.compact ([] : List Int) = [] := List.eq_nil_of_length_eq_zero hc0
    refine (Any.slices_Compact_int_empty Try.lays20 none 0 w).mono ?_
    rintro e w' ⟨rfl, rfl⟩
    rw [hc1]
    exact ⟨rfl, ⟨rfl, Or.inl ⟨rfl, rfl⟩⟩, Kept.refl _ _⟩
  · cases e9
    rw [Nat.mul_one] at h4
    refine (Any.slices_Compact_int Try.lays20 g 0 c l w (holdsI hb h4) (by omega) h1).mono ?_
    rintro e w' ⟨rfl, q, rfl⟩
    have hgr : grow (putRow (Value.int .i64) (Sort.ahead w q) g 0 (Lib.compact l ++ List.replicate (l.length - (Lib.compact l).length) 0).toArray) #[] = putRow (Value.int .i64) (Sort.ahead w q) g 0 (Lib.compact l ++ List.replicate (l.length - (Lib.compact l).length) 0).toArray := grow_empty _
    have hlen : (Lib.compact l ++ List.replicate (l.length - (Lib.compact l).length) 0).length = l.length := by simp; omega
    refine ⟨rfl, ⟨by simp [inC], Or.inr ⟨g, c, putCells (Value.int .i64) 0 (Lib.compact l ++ List.replicate (l.length - (Lib.compact l).length) 0).toArray cur, rfl, hbase, ?_, by omega, h2, by simp [putCells, h3], ?_⟩⟩, ?_⟩
    · rw [← hgr]
      exact heapI _ hb
    · have := takeI cur (Lib.compact l ++ List.replicate (l.length - (Lib.compact l).length) 0) (by rw [hlen, h3]; omega)
      rw [hlen] at this
      rw [Nat.mul_one]
      have h5 := congrArg (List.take (Lib.compact l).length) this
      rw [List.take_take, Nat.min_eq_left hcl, inC_append] at h5
      rw [h5, List.take_left' (by simp [inC])]
    · have := grownI (w := w) (g := g) (n := q) (os := #[]) (Lib.compact l ++ List.replicate (l.length - (Lib.compact l).length) 0).toArray
      rw [hgr] at this
      exact this.mono (fun i _ hi => by omega)

theorem compact_le (l : List Int) : (Lib.compact l).length ≤ l.length := by
  unfold Lib.compact Lib.compactUpTo
  rw [List.length_map]
  exact Nat.le_trans (List.length_filter_le _ _) (by simp)

/-- Where the pieces begin that are old enough. -/
def bsF (m ripe : Int) (ts : List Int) : List Int := (ts.map fun t => flF t m).filter fun b => decide (b + m ≤ ripe)
def ripeF (newest width : Int) : Int := cl newest - max width 1 / 2
def cutsF (ts : List Int) (newest width : Int) : List Int := Lib.compact (srt (bsF (max width 1) (ripeF newest width) ts))

theorem fl_hi (t m : Int) (hm : 1 ≤ m ∧ m ≤ 9223372036854775807) : -9223372036854775808 ≤ flF t m ∧ flF t m + m ≤ 9223372036854775807 := by
  have h0 := cl_in t
  unfold flF
  generalize cl t = u at *
  rw [show max m 1 = m by omega]
  refine ⟨fl_lo u m h0 hm, ?_⟩
  have h1 := Int.emod_nonneg u (show m ≠ 0 by omega)
  have h2 := Int.emod_lt_of_pos u (show 0 < m by omega)
  by_cases h : u < 0
  · omega
  · by_cases h4 : u < m
    · rw [Int.emod_eq_of_lt (by omega) h4]
      omega
    · omega

set_option maxRecDepth 100000 in
set_option maxHeartbeats 2000000 in
theorem cuts_any (v : Value) (ts : List Int) (newest width : Int) (w : World) (h : InAt w v ts) (hl : ts.length ≤ 1000) (hw : -9223372036854775808 ≤ width ∧ width ≤ 9223372036854775807) :
    Calls Try.prog 5 #[v, .int .i64 newest, .int .i64 width] w fun e w' => ∃ a c, e = .returned (.slice a (cutsF ts newest width).length c) ∧ w'.ownsRow w.heap.size 3 1 (.slice a (cutsF ts newest width).length c) (cutsF ts newest width).length (inC (cutsF ts newest width)) ∧ Below w.heap.size w w' := by
  obtain ⟨a1, c1, rfl, -⟩ := id h
  have HL : Hid (InAt w (.slice a1 ts.length c1) ts) := h
  have hwi := fun W => within_any newest W
  obtain ⟨m, hm⟩ : ∃ m, m = max width 1 := ⟨_, rfl⟩
  have hm1 : 1 ≤ m ∧ m ≤ 9223372036854775807 := by omega
  have HCF : Hid (cutsF ts newest width = Lib.compact (srt (bsF m (cl newest - m / 2) ts))) := by show _ = _; unfold cutsF ripeF; rw [← hm]
  have hci := cl_in newest
  have hfl := fun t W => floor_any t m W (by omega)
  generalize cl newest = u at *
  have hq : m.tdiv 2 = m / 2 := Int.tdiv_eq_ediv_of_nonneg (by omega)
  have hwr : IntKind.i64.wrap (u - m / 2) = u - m / 2 := by rw [IntKind.wrap_i64]; omega
  obtain ⟨r, hr⟩ : ∃ r, r = u - m / 2 := ⟨_, rfl⟩
  rw [← hr] at HCF
  clear h
  go_enter Try.func5, Try.ntmps5
  go_wp2_with (go_at_call 13; refine (hwi _).mono ?_; clear hwi; rintro e w1 ⟨rfl, e8⟩; have e8 := e8.symm; subst e8)
  rw [← hm, ← hr]
  clear hm hr hwr hq
  go_loopw [8, 21] (fun vo i wr => ∃ (k : Nat) (a : Option Addr) (c : Nat), k ≤ ts.length ∧ i = .int .i64 k ∧ vo = .slice a (bsF m r (ts.take k)).length c ∧ Hid (wr.ownsRow w.heap.size 3 1 (.slice a (bsF m r (ts.take k)).length c) (bsF m r (ts.take k)).length (inC (bsF m r (ts.take k)))) ∧ Hid (Below w.heap.size w wr)) (fun _ i _ => ts.length - (intOf i).toNat)
  case atStart => exact ⟨0, none, 0, Nat.zero_le _, rfl, by simp [bsF], by show World.ownsRow _ _ _ _ _ _ _; simpa [bsF, inC] using World.ownsRow_nil _ _ _ _, Below.refl _ _⟩
  case round =>
    obtain ⟨k, a, c, hk, rfl, rfl, hrow, hbel⟩ := hrel
    have hsw := hbel.out.size
    have hbl : (bsF m r (ts.take k)).length ≤ k := by
      unfold bsF
      refine Nat.le_trans (List.length_filter_le _ _) ?_
      simp
      omega
    by_cases hlt : k < ts.length
    · obtain ⟨b0, o0, e0, hone⟩ := InAt.one HL.out k hlt
      subst e0
      have g0 := hone wr hbel.out
      obtain ⟨t, ht⟩ : ∃ t, t = ts[k] := ⟨_, rfl⟩
      rw [← ht] at g0
      have hb := fl_hi t m hm1
      have hfl1 := hfl t
      obtain ⟨b, hbe⟩ : ∃ b, b = flF t m := ⟨_, rfl⟩
      have HST : Hid (bsF m r (ts.take (k + 1)) = bsF m r (ts.take k) ++ if b + m ≤ r then [b] else []) := by
        show _ = _
        unfold bsF
        rw [List.take_succ_eq_append_getElem hlt, List.map_append, List.filter_append, ← ht, hbe]
        congr 1
        by_cases h9 : flF t m + m ≤ r
        · simp [h9]
        · simp [h9]
      rw [← hbe] at hb hfl1
      have hkl : (k : Int) < (ts.length : Int) := by omega
      have hwb : IntKind.i64.wrap (b + m) = b + m := by rw [IntKind.wrap_i64]; omega
      clear hone ht hbe hfl
      by_cases hle : b + m ≤ r
      · rw [if_pos hle] at HST
        go_wp2_with (first
          | (go_at_call 8; refine (hfl1 _).mono ?_; clear hfl1; rintro e w1 ⟨rfl, e8⟩; have e8 := e8.symm; subst e8)
          | (at_builtin; refine wpList_append_row appIn _ rfl _ _ rfl w.heap.size _ (bsF m r (ts.take k)).length (inC (bsF m r (ts.take k))) rfl (World.ownsRow.alloc hrow.out _) _ 1 [.int .i64 b] rfl (RowAt.of_block (cs := #[.int .i64 b]) (heap_alloc_new wr _) rfl (by decide)) (by simp [Value.oneCell']) (by omega) (by simp; omega) ?_; intro a5 c5 w5 hr5 hg5 _))
        go_roundw
        case rel =>
          have hb5 : Below w.heap.size w w5 := (hbel.out.alloc hsw _).grown hg5 (by simp; omega) (fun j hj => (World.ownsRow.lt hrow.out j hj).1)
          refine ⟨k + 1, a5, c5, by omega, by go_num, ?_, ?_, hb5⟩
          · rw [HST.out, List.length_append]
            rfl
          · show World.ownsRow _ _ _ _ _ _ _
            rw [HST.out, List.length_append, inC_append]
            exact hr5
        case measure => simp [intOf]; omega
      · rw [if_neg hle, List.append_nil] at HST
        go_wp2_with (go_at_call 8; refine (hfl1 _).mono ?_; clear hfl1; rintro e w1 ⟨rfl, e8⟩; have e8 := e8.symm; subst e8)
        go_roundw
        case rel =>
          refine ⟨k + 1, a, c, by omega, by go_num, ?_, ?_, hbel.out⟩
          · rw [HST.out]
          · show World.ownsRow _ _ _ _ _ _ _
            rw [HST.out]
            exact hrow.out
        case measure => simp [intOf]; omega
    · have hkl : ¬ (k : Int) < (ts.length : Int) := by omega
      have hke : ts.take k = ts := List.take_of_length_le (by omega)
      rw [hke] at hrow hbl ⊢
      have hso := sortI_any a c (bsF m r ts) wr w.heap.size hrow.out (by omega)
      have hsl : (srt (bsF m r ts)).length = (bsF m r ts).length := by simp [srt]
      have HCO : Hid (∀ W, W.ownsRow w.heap.size 3 1 (.slice a (bsF m r ts).length c) (bsF m r ts).length (inC (srt (bsF m r ts))) → Calls Try.prog 15 #[.slice a (bsF m r ts).length c] W fun e w' => e = .returned (.slice a (cutsF ts newest width).length c) ∧ w'.ownsRow w.heap.size 3 1 (.slice a (cutsF ts newest width).length c) (cutsF ts newest width).length (inC (cutsF ts newest width)) ∧ Kept (fun i => w.heap.size ≤ i) W w') := fun W hW => by
        rw [HCF.out]
        have h9 := compactI_any a c (srt (bsF m r ts)) W w.heap.size (by rw [hsl]; exact hW) (by omega) (compact_le _)
        rw [hsl] at h9
        exact h9
      clear HCF hfl hsl
      go_wp2_with (first
        | (go_at_call 14; refine hso.mono ?_; clear hso; rintro e w2 ⟨rfl, hr2, hk2⟩; have hco := HCO.out w2 hr2; have HB2 : Hid (Below w.heap.size w w2) := hbel.out.trans (hk2.toBelow hsw (fun i hi => hi)); clear HCO hr2 hk2)
        | (go_at_call 15; refine hco.mono ?_; clear hco; rintro e w3 ⟨rfl, hr3, hk3⟩))
      go_ret
      exact ⟨a, c, rfl, hr3, HB2.out.trans (hk3.toBelow HB2.out.size (fun i hi => hi))⟩

end Go.Proofs.Ytdmkfogohacaiaa
