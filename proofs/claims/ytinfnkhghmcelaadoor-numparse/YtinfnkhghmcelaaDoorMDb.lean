/- Reading numbers: decimals, walked. -/
import Derived.Test.YtinfnkhghmcelaaDoorMN9
namespace Go.Proofs.YtinfnkhghmcelaaDoor
open Go.RowKit Go.Maps

/-- append of one byte. -/
theorem wpList_append_byte (w : World) {ops : Array Oper} {rest : List Oper} {o : Oper} {a : Act} {Q : Exit → Act → World → Prop} (hgd : o.guard = none) (s x : Operand)
    (ho : o.op = .call { callee := .builtin .append, args := #[s, x], argTypes := #[44, 44] }) (base : Nat) (ao : Option Addr) (n co : Nat) (es : List UInt8) (hs : a.eval s = .slice ao n co) (hrow : w.ownsRow base 5 1 (.slice ao n co) n (u8s es))
    (g : Nat) (y : Int) (hy0 : 0 ≤ y) (hy : y < 256) (hx : a.eval x = .slice (some ⟨g, 0, none⟩) 1 1) (hg : w.heap[g]? = some (.cells #[.int .u8 y] 5 (0, 0))) (hl : n ≤ 1000000) (hbase : base ≤ w.heap.size)
    (h : ∀ a' c' w', w'.ownsRow base 5 1 (.slice a' (n + 1) c') (n + 1) (u8s (es ++ [UInt8.ofNat y.toNat])) → w.grownBy w' (Value.slice ao n co).ownBlock → wpList Tryd.prog ops Q rest (a.put o.dst (.slice a' (n + 1) c')) w') : wpList Tryd.prog ops Q (o :: rest) a w := by
  obtain ⟨i0, hi0, hz0, hz1, hz2⟩ := info_parts infoU8
  refine wpList_append_own_at w hgd s x 44 ho base 5 i0 _ 1 1 Tryd.underlying44 hi0 hz0 hz1 hz2 rfl (by decide) (.slice ao n co) n (u8s es) hs hrow ⟨g, 0, none⟩ 1 1 [.int .u8 y] hx rfl (World.news_of_block (cs := #[.int .u8 y]) (t := 5) (fr := (0, 0)) hg) (by simp [Value.oneCell']) (by unfold maxLen; omega) (by omega) hbase ?_
  intro v1 w1 hr1 hg1 hnil1 hloc1
  obtain ⟨a1, c1, rfl⟩ := slice_of_row hr1
  refine h a1 c1 w1 ?_ hg1
  have hxx : ((UInt8.ofNat y.toNat).toNat : Int) = y := by rw [UInt8.toNat_ofNat']; omega
  have : u8s (es ++ [UInt8.ofNat y.toNat]) = u8s es ++ [.int .u8 y] := by rw [u8s_append]; simp only [u8s, List.map_cons, List.map_nil, hxx]
  rw [this]
  exact hr1
theorem dec_not_row {w : World} {b base n : Nat} {v v0 v1 : Value} {xs : List Value} (h : w.heap[b]? = some (.cells #[v0, v1] 46 (0, 0))) (hr : w.ownsRow base 5 1 v n xs) : some b ≠ v.ownBlock := fun e => by
  rcases hr.2 with ⟨rfl, _⟩ | ⟨g, cap, cur, rfl, _, hg, _⟩
  · cases e
  · obtain rfl : b = g := by simpa [Value.ownBlock] using e
    rw [h] at hg
    injection hg with h9
    injection h9 with _ h8
    exact absurd h8 (by decide)
theorem dec_cells {w : World} {b : Nat} {v0 v1 : Value} (h : w.heap[b]? = some (.cells #[v0, v1] 46 (0, 0))) : w.cell? ⟨b, 0, none⟩ = some v0 ∧ w.cell? ⟨b, 1, none⟩ = some v1 ∧ w.frozen? ⟨b, 0, none⟩ = false ∧ w.frozen? ⟨b, 1, none⟩ = false := by
  simp [World.cell?, World.frozen?, h]
theorem dec_set0 {w : World} {b : Nat} {v0 v1 : Value} (h : w.heap[b]? = some (.cells #[v0, v1] 46 (0, 0))) (u : Value) : (w.setCell ⟨b, 0, none⟩ u).heap[b]? = some (.cells #[u, v1] 46 (0, 0)) := by
  rw [heap_setCell_same h]; rfl
theorem dec_set1 {w : World} {b : Nat} {v0 v1 : Value} (h : w.heap[b]? = some (.cells #[v0, v1] 46 (0, 0))) (u : Value) : (w.setCell ⟨b, 1, none⟩ u).heap[b]? = some (.cells #[v0, u] 46 (0, 0)) := by
  rw [heap_setCell_same h]; rfl
/-- What a decimal under way comes to in memory. -/
structure DecAt (w W : World) (a : Option Addr) (c : Nat) (ds : List UInt8) (p : Int) : Prop where
  d : W.heap[w.heap.size + 1]? = some (.cells #[.slice a ds.length c, .int .i64 p] 46 (0, 0))
  r : W.heap[w.heap.size]? = some (.cells #[.slice none 0 0, .int .i64 0] 46 (0, 0))
  row : W.ownsRow w.heap.size 5 1 (.slice a ds.length c) ds.length (u8s ds)
  bel : Below w.heap.size w W
theorem DecAt.power {w W : World} {a : Option Addr} {c : Nat} {ds : List UInt8} {p : Int} (h : DecAt w W a c ds p) (p' : Int) : DecAt w (W.setCell ⟨w.heap.size + 1, 1, none⟩ (.int .i64 p')) a c ds p' where
  d := dec_set1 h.d _
  r := (Below.heap_setCell W ⟨w.heap.size + 1, 1, none⟩ _ _ (by show w.heap.size ≠ w.heap.size + 1; omega)).trans h.r
  row := by
    have hne := dec_not_row h.d h.row
    exact World.ownsRow.kept h.row ⟨rfl, rfl, rfl, by simp [World.setCell], fun k _ hk => Below.heap_setCell W ⟨w.heap.size + 1, 1, none⟩ _ k (fun e => hk (congrArg some e))⟩ (Or.inr fun e => hne e.symm)
  bel := h.bel.setCell (p := ⟨w.heap.size + 1, 1, none⟩) (by show w.heap.size ≤ w.heap.size + 1; omega) _
/-- A digit more. -/
theorem DecAt.digit {w W W1 : World} {a a' : Option Addr} {c c' : Nat} {ds ds' : List UInt8} {p : Int} {o : Obj} (h : DecAt w W a c ds p) (hr : W1.ownsRow w.heap.size 5 1 (.slice a' ds'.length c') ds'.length (u8s ds')) (hg : (W.alloc o).grownBy W1 (Value.slice a ds.length c).ownBlock) : (W1.heap[w.heap.size + 1]? = some (.cells #[.slice a ds.length c, .int .i64 p] 46 (0, 0))) ∧ DecAt w (W1.setCell ⟨w.heap.size + 1, 0, none⟩ (.slice a' ds'.length c')) a' c' ds' p := by
  have hlt1 : w.heap.size + 1 < W.heap.size := (Array.getElem?_eq_some_iff.1 h.d).1
  have hlt0 : w.heap.size < W.heap.size := by omega
  have ha := (World.ownsRow.alloc h.row o)
  have hd0 : (W.alloc o).heap[w.heap.size + 1]? = some (.cells #[.slice a ds.length c, .int .i64 p] 46 (0, 0)) := (Below.heap_alloc W o _ hlt1).trans h.d
  have hr0 : (W.alloc o).heap[w.heap.size]? = some (.cells #[.slice none 0 0, .int .i64 0] 46 (0, 0)) := (Below.heap_alloc W o _ hlt0).trans h.r
  have hd1 : W1.heap[w.heap.size + 1]? = some (.cells #[.slice a ds.length c, .int .i64 p] 46 (0, 0)) := (hg.block _ (by simp; omega) (dec_not_row hd0 ha)).trans hd0
  have hr1 : W1.heap[w.heap.size]? = some (.cells #[.slice none 0 0, .int .i64 0] 46 (0, 0)) := (hg.block _ (by simp; omega) (dec_not_row hr0 ha)).trans hr0
  refine ⟨hd1, dec_set0 hd1 _, (Below.heap_setCell W1 ⟨w.heap.size + 1, 0, none⟩ _ _ (by show w.heap.size ≠ w.heap.size + 1; omega)).trans hr1, ?_, ?_⟩
  · have hne := dec_not_row hd1 hr
    exact World.ownsRow.kept hr ⟨rfl, rfl, rfl, by simp [World.setCell], fun k _ hk => Below.heap_setCell W1 ⟨w.heap.size + 1, 0, none⟩ _ k (fun e => hk (congrArg some e))⟩ (Or.inr fun e => hne e.symm)
  · have hb := h.bel.size
    exact ((h.bel.alloc hb o).grown hg (by simp; omega) (fun j hj => (h.row.lt j hj).1)).setCell (p := ⟨w.heap.size + 1, 0, none⟩) (by show w.heap.size ≤ w.heap.size + 1; omega) _

theorem DecAt.drewN {w W : World} {a : Option Addr} {c : Nat} {ds : List UInt8} {p : Int} (h : DecAt w W a c ds p) (q : Nat) : DecAt w (W.drewN q) a c ds p := by
  have hb := below_drewN (Below.refl W.heap.size W) q
  exact ⟨(hb.block _ (Array.getElem?_eq_some_iff.1 h.d).1).trans h.d, (hb.block _ (Array.getElem?_eq_some_iff.1 h.r).1).trans h.r, row_below h.row hb, below_drewN h.bel q⟩
/-- What is handed back. -/
theorem DecAt.out {w W : World} {a : Option Addr} {c : Nat} {ds : List UInt8} {p : Int} (h : DecAt w W a c ds p) (v0 v1 : Value) :
    ((W.setCell ⟨w.heap.size, 0, none⟩ v0).setCell ⟨w.heap.size, 1, none⟩ v1).heap[w.heap.size]? = some (.cells #[v0, v1] 46 (0, 0)) ∧ ((W.setCell ⟨w.heap.size, 0, none⟩ v0).setCell ⟨w.heap.size, 1, none⟩ v1).ownsRow w.heap.size 5 1 (.slice a ds.length c) ds.length (u8s ds) ∧ Below w.heap.size w ((W.setCell ⟨w.heap.size, 0, none⟩ v0).setCell ⟨w.heap.size, 1, none⟩ v1) := by
  have h1 := dec_set0 h.r v0
  have hne := dec_not_row h.r h.row
  have hr1 : (W.setCell ⟨w.heap.size, 0, none⟩ v0).ownsRow w.heap.size 5 1 (.slice a ds.length c) ds.length (u8s ds) := World.ownsRow.kept h.row ⟨rfl, rfl, rfl, by simp [World.setCell], fun k _ hk => Below.heap_setCell W ⟨w.heap.size, 0, none⟩ _ k (fun e => hk (congrArg some e))⟩ (Or.inr fun e => hne e.symm)
  refine ⟨dec_set1 h1 v1, ?_, (h.bel.setCell (p := ⟨w.heap.size, 0, none⟩) (Nat.le_refl _) _).setCell (p := ⟨w.heap.size, 1, none⟩) (Nat.le_refl _) _⟩
  exact World.ownsRow.kept hr1 ⟨rfl, rfl, rfl, by simp [World.setCell], fun k _ hk => Below.heap_setCell _ ⟨w.heap.size, 1, none⟩ _ k (fun e => hk (congrArg some e))⟩ (Or.inr fun e => hne e.symm)
theorem expF_le : ∀ (l : List UInt8) (n m : Nat), n ≤ 1048576 → expF l n = some m → m ≤ 1048576
  | [], n, m, h, e => by simp [expF] at e; omega
  | b :: t, n, m, h, e => by
    unfold expF at e
    split at e
    · exact expF_le t _ m (by omega) e
    · cases e
theorem expR_le (s : ByteArray) : -1048576 ≤ (expR s).1 ∧ (expR s).1 ≤ 1048576 := by
  unfold expR
  split
  · simp
  · split
    · simp
    · rename_i m hm
      have := expF_le _ _ _ (by omega) hm
      simp only
      split <;> omega
theorem ext_drop (s : ByteArray) (k : Nat) : (⟨(s.data.toList.drop k).toArray⟩ : ByteArray) = s.extract k s.size := by
  apply WideShapes.bytes_inj
  rw [ByteArray.data_extract, Array.toList_extract]
  show s.data.toList.drop k = (s.data.toList.drop k).take (s.size - k)
  rw [List.take_of_length_le (by simp)]

end Go.Proofs.YtinfnkhghmcelaaDoor
