/- Texts that belong together. -/
import Derived.Test.YtdadagbkkaeejaaGreatDoorMEy0
import Derived.Laws.OwnMore
import Derived.Lib.AppendStr
/- Labels behind a row; the document's put. -/
namespace Go.Proofs.YtdadagbkkaeejaaGreatDoor
open Go.RowKit Go.Maps Go.Sort

theorem lbCells_one (l : List Lb) : ∀ u ∈ lbCells l, u.oneCell' = true := fun u hu => by
  simp only [lbCells, List.mem_flatMap] at hu
  obtain ⟨x, _, hx⟩ := hu
  simp at hx
  rcases hx with rfl | rfl <;> rfl

theorem LabsAt.cells {w : World} {b o : Nat} {c : Nat} {ls : List Lb} (h : LabsAt w (.slice (some ⟨b, o, none⟩) ls.length c) ls) : ∀ j u, (lbCells ls)[j]? = some u → w.cell? ((⟨b, o, none⟩ : Addr).add j) = some u := fun j u hu => by
  have hj : j < (lbCells ls).length := by
    rcases Nat.lt_or_ge j (lbCells ls).length with h1 | h1
    · exact h1
    · rw [List.getElem?_eq_none h1] at hu; cases hu
  rw [lbCells_length] at hj
  have hk : j / 2 < ls.length := by omega
  obtain ⟨a', c', e, -, hc⟩ := h
  cases e
  obtain ⟨b', o', e, _, h1, h2⟩ := hc (j / 2) hk
  cases e
  have h3 := lbCells_at ls (j / 2) hk
  rw [Addr.add_lit]
  rcases Nat.mod_two_eq_zero_or_one j with hm | hm
  · have ej : j = j / 2 * 2 := by omega
    rw [ej] at hu ⊢
    rw [h3.1] at hu
    cases hu
    exact h1
  · have ej : j = j / 2 * 2 + 1 := by omega
    rw [ej] at hu ⊢
    rw [h3.2] at hu
    cases hu
    exact h2

theorem run_append_labs (w : World) (ty : TypeId) (base : Nat) (v : Value) (n : Nat) (xs : List Value) (hown : w.ownsRow base 62 2 v n xs) (xv : Value) (nw : List Lb) (hb : LabsAt w xv nw) (hl : n + nw.length ≤ 1000000) (hbase : base ≤ w.heap.size) :
    ∃ v' w', (Builtin.append_ #[32, 32] ty #[v, xv]).run Tryz.prog w = .ok v' w' ∧ w'.ownsRow base 62 2 v' (n + nw.length) (xs ++ lbCells nw) ∧ w.grownBy w' v.ownBlock ∧ (v'.ownBlock = v.ownBlock ∨ v'.ownBlock = some w.heap.size) := by
  obtain ⟨i0, hi0, hz0, hz1, hz2⟩ := info_parts infoLb
  obtain ⟨a, c, rfl, hlc, -⟩ := id hb
  have hnone : nw = [] → a = none → ∃ v' w', (Builtin.append_ #[32, 32] ty #[v, .slice a nw.length c]).run Tryz.prog w = .ok v' w' ∧ w'.ownsRow base 62 2 v' (n + nw.length) (xs ++ lbCells nw) ∧ w.grownBy w' v.ownBlock ∧ (v'.ownBlock = v.ownBlock ∨ v'.ownBlock = some w.heap.size) := fun e1 e2 => by
    subst e1 e2
    exact ⟨v, w, run_append_owned_none (P := Tryz.prog) (w := w) base 32 ty 62 i0 2 Tryz.underlying32 hi0 v n xs hown, by simpa [lbCells] using hown, ⟨rfl, rfl, rfl, Nat.le_refl _, fun _ _ _ => rfl⟩, Or.inl rfl⟩
  have hsome : ∀ ad : Addr, a = some ad → (∀ j u, (lbCells nw)[j]? = some u → w.cell? (ad.add j) = some u) → ∃ v' w', (Builtin.append_ #[32, 32] ty #[v, .slice a nw.length c]).run Tryz.prog w = .ok v' w' ∧ w'.ownsRow base 62 2 v' (n + nw.length) (xs ++ lbCells nw) ∧ w.grownBy w' v.ownBlock ∧ (v'.ownBlock = v.ownBlock ∨ v'.ownBlock = some w.heap.size) := fun ad e hcell => by
    subst e
    obtain ⟨v', w', hr, h2, h3, _, h5⟩ := run_append_own_at (P := Tryz.prog) w base 32 ty 62 i0 _ 2 32 Tryz.underlying32 hi0 hz0 hz1 hz2 rfl (by decide) v n xs hown ad nw.length c (lbCells nw) (lbCells_length nw) hcell (lbCells_one nw) (by unfold maxLen; omega) (by omega) hbase
    exact ⟨v', w', hr, h2, h3, h5⟩
  cases nw with
  | nil =>
    cases a with
    | none => exact hnone rfl rfl
    | some ad => exact hsome ad rfl (fun j u hu => by simp [lbCells] at hu)
  | cons x r =>
    obtain ⟨a', c', e, -, hc⟩ := id hb
    cases e
    obtain ⟨b, o, rfl, -⟩ := hc 0 (by simp)
    exact hsome _ rfl hb.cells

theorem wpList_append_labs (w : World) {ops : Array Oper} {rest : List Oper} {o : Oper} {a : Act} {Q : Exit → Act → World → Prop} (hgd : o.guard = none) (s x : Operand)
    (ho : o.op = .call { callee := .builtin .append, args := #[s, x], argTypes := #[32, 32] }) (base : Nat) (v : Value) (n : Nat) (xs : List Value) (hs : a.eval s = v) (hown : w.ownsRow base 62 2 v n xs)
    (xv : Value) (nw : List Lb) (hx : a.eval x = xv) (hb : LabsAt w xv nw) (hl : n + nw.length ≤ 1000000) (hbase : base ≤ w.heap.size)
    (h : ∀ v' w', w'.ownsRow base 62 2 v' (n + nw.length) (xs ++ lbCells nw) → w.grownBy w' v.ownBlock → (v'.ownBlock = v.ownBlock ∨ v'.ownBlock = some w.heap.size) → wpList Tryz.prog ops Q rest (a.put o.dst v') w') :
    wpList Tryz.prog ops Q (o :: rest) a w := by
  refine wpList_plain hgd fun K hK => ?_
  obtain ⟨v', w', hr, h2, h3, h4⟩ := run_append_labs w o.type base v n xs hown xv nw hb hl hbase
  unfold Oper.wp execOp
  simp only [ho, resolve, invoke, builtin, Sem.run_bind, Sem.run_pure, Result.andThen_ok, List.map_toArray, List.map_cons, List.map_nil, hs, hx, hr]
  exact hK _ _ (h v' w' h2 h3 h4)

/-- A label in a block of its own, as a slice of one. -/
theorem LabsAt.lone {w : World} {g : Nat} {x y : ByteArray} {t : TypeId} {fr : Nat × Nat} (h : w.heap[g]? = some (.cells #[.string x, .string y] t fr)) : LabsAt w (.slice (some ⟨g, 0, none⟩) 1 1) [(x, y)] := by
  refine ⟨some ⟨g, 0, none⟩, 1, rfl, ⟨Nat.le_refl _, by decide⟩, fun k hk => ?_⟩
  have : k = 0 := by simpa using hk
  subst this
  refine ⟨g, 0, rfl, (Array.getElem?_eq_some_iff.1 h).1, ?_, ?_⟩
  · exact World.news_of_block h 0 (.string x) rfl
  · exact World.news_of_block h 1 (.string y) rfl

theorem LabsAt.take {w : World} {a : Option Addr} {n c : Nat} {ls : List Lb} (h : LabsAt w (.slice a n c) ls) (k : Nat) (hk : k ≤ n) : LabsAt w (.slice a k c) (ls.take k) := by
  obtain ⟨a', c', e, hlc, hc⟩ := h
  cases e
  have hl : (ls.take k).length = k := by simp; omega
  refine ⟨a, c, by rw [hl], ⟨by omega, hlc.2⟩, fun i hi => ?_⟩
  obtain ⟨b, o, e, h1, h2, h3⟩ := hc i (by omega)
  exact ⟨b, o, e, h1, by rw [h2]; simp, by rw [h3]; simp⟩
theorem LabsAt.drop {w : World} {b o n c : Nat} {ls : List Lb} (h : LabsAt w (.slice (some ⟨b, o, none⟩) n c) ls) (k : Nat) (hk : k ≤ n) : LabsAt w (.slice (some ⟨b, o + k * 2, none⟩) (n - k) (c - k)) (ls.drop k) := by
  obtain ⟨a', c', e, hlc, hc⟩ := h
  cases e
  have hl : (ls.drop k).length = ls.length - k := by simp
  refine ⟨_, _, by rw [hl], ⟨by omega, by have := hlc.2; omega⟩, fun i hi => ?_⟩
  obtain ⟨b', o', e, h1, h2, h3⟩ := hc (k + i) (by omega)
  cases e
  refine ⟨b, o + k * 2, rfl, h1, ?_, ?_⟩
  · rw [show o + k * 2 + i * 2 = o + (k + i) * 2 by omega, h2]; simp
  · rw [show o + k * 2 + i * 2 + 1 = o + (k + i) * 2 + 1 by omega, h3]; simp

def lessL (x : ByteArray) (y : Lb) : Bool := Op.bytesLess y.1.toList x.toList
def putL (ls : List Lb) (x : Lb) : List Lb := ls.takeWhile (lessL x.1) ++ x :: ls.dropWhile (lessL x.1)
def Upto (ls : List Lb) (x : ByteArray) (k : Nat) : Prop := ∀ i (h : i < ls.length), i < k → lessL x ls[i] = true
theorem Upto.split : ∀ {ls : List Lb} {x : ByteArray} {k : Nat}, Upto ls x k → k ≤ ls.length → (∀ h : k < ls.length, lessL x ls[k] = false) → ls.takeWhile (lessL x) = ls.take k ∧ ls.dropWhile (lessL x) = ls.drop k
  | [], _, k, _, hk, _ => by simp
  | y :: r, x, 0, _, _, h2 => by
    have := h2 (by simp)
    simp at this
    simp [this]
  | y :: r, x, k + 1, h1, hk, h2 => by
    have h3 := h1 0 (by simp) (by omega)
    simp at h3
    have := Upto.split (ls := r) (x := x) (k := k) (fun i hi hlt => by have := h1 (i + 1) (by simpa using hi) (by omega); simpa using this) (by simpa using hk) (fun h => by have := h2 (by simpa using h); simpa using this)
    simp [h3, this.1, this.2]

theorem row_empty (W : World) (base : Nat) (hb : base ≤ W.heap.size) : (W.alloc (.cells #[] 62 (0, 0))).ownsRow base 62 2 (.slice (some ⟨W.heap.size, 0, none⟩) 0 0) 0 [] :=
  ⟨rfl, Or.inr ⟨W.heap.size, 0, #[], rfl, hb, heap_alloc_new W _, Nat.le_refl _, Nat.zero_le _, rfl, rfl⟩⟩
theorem row_lo {w : World} {base size n : Nat} {e : TypeId} {v : Value} {xs : List Value} (h : w.ownsRow base e size v n xs) : ∀ j, v.ownBlock = some j → base ≤ j := fun j hj => (h.lt j hj).1
theorem below_grown {w wr w1 : World} {v : Value} (hb : Below w.heap.size w wr) (hlo : ∀ j, v.ownBlock = some j → w.heap.size ≤ j) (hg : wr.grownBy w1 v.ownBlock) : Below w.heap.size w w1 :=
  hb.grown hg hb.size hlo

theorem put_first {w wq w1 : World} {nm vl : ByteArray} {k : Nat} {lt : List Lb} {v1 : Value} (hb2 : Below w.heap.size w wq) (hX2 : wq.heap[w.heap.size]? = some (.cells #[.string nm, .string vl] 62 (0, 0))) (hl' : lt.length = k)
    (hr1 : w1.ownsRow w.heap.size 62 2 v1 (0 + lt.length) ([] ++ lbCells lt)) (hg1 : (wq.alloc (.cells #[] 62 (0, 0))).grownBy w1 (Value.slice (some ⟨wq.heap.size, 0, none⟩) 0 0).ownBlock) :
    w1.ownsRow w.heap.size 62 2 v1 k (lbCells lt) ∧ Below w.heap.size w w1 ∧ w1.cell? ⟨w.heap.size, 0, none⟩ = some (.string nm) ∧ w1.cell? ⟨w.heap.size, 1, none⟩ = some (.string vl) ∧ w.heap.size ≤ w1.heap.size := by
  have hlt : w.heap.size < wq.heap.size := (Array.getElem?_eq_some_iff.1 hX2).1
  have hb3w : Below wq.heap.size wq w1 := ((Below.refl _ wq).alloc (Nat.le_refl _) _).grown hg1 (by simp) (fun j hj => by cases hj; exact Nat.le_refl _)
  have hb3 := hb2.trans (hb3w.mono hb2.size)
  refine ⟨by rw [hl', Nat.zero_add] at hr1; exact hr1, hb3, ?_, ?_, hb3.size⟩
  · exact (hb3w.cell (p := ⟨w.heap.size, 0, none⟩) hlt).trans (World.news_of_block hX2 0 _ rfl)
  · exact (hb3w.cell (p := ⟨w.heap.size, 1, none⟩) hlt).trans (World.news_of_block hX2 1 _ rfl)

end Go.Proofs.YtdadagbkkaeejaaGreatDoor

/- Rows of one's own. -/
namespace Go.Proofs.YtdadagbkkaeejaaGreatDoor
open Go.RowKit Go.Maps Go.Sort

theorem row_mono {w : World} {base base' size n : Nat} {e : TypeId} {v : Value} {xs : List Value} (h : w.ownsRow base e size v n xs) (hb : base' ≤ base) : w.ownsRow base' e size v n xs := by
  refine ⟨h.1, ?_⟩
  rcases h.2 with h1 | ⟨g, cap, cur, e, h2, h3⟩
  · exact Or.inl h1
  · exact Or.inr ⟨g, cap, cur, e, Nat.le_trans hb h2, h3⟩
theorem row_below {w w' : World} {base size n : Nat} {e : TypeId} {v : Value} {xs : List Value} (h : w.ownsRow base e size v n xs) (hb : Below w.heap.size w w') : w'.ownsRow base e size v n xs := by
  refine ⟨h.1, ?_⟩
  rcases h.2 with h1 | ⟨g, cap, cur, e, h2, h3, h4⟩
  · exact Or.inl h1
  · exact Or.inr ⟨g, cap, cur, e, h2, (hb.block g (Array.getElem?_eq_some_iff.1 h3).1).trans h3, h4⟩
theorem slice_of_row {w : World} {base n size : Nat} {e : TypeId} {v : Value} {xs : List Value} (h : w.ownsRow base e size v n xs) : ∃ a c, v = .slice a n c := by
  rcases h.2 with ⟨rfl, rfl⟩ | ⟨g, cap, _, rfl, _⟩
  · exact ⟨none, 0, rfl⟩
  · exact ⟨_, cap, rfl⟩

end Go.Proofs.YtdadagbkkaeejaaGreatDoor

/- append of texts. -/
namespace Go.Proofs.YtdadagbkkaeejaaGreatDoor
open Go.RowKit Go.Maps Go.Sort

def txCells (l : List ByteArray) : List Value := l.map .string
theorem txCells_length (l : List ByteArray) : (txCells l).length = l.length := by simp [txCells]
theorem txCells_one (l : List ByteArray) : ∀ u ∈ txCells l, u.oneCell' = true := fun u hu => by
  simp only [txCells, List.mem_map] at hu
  obtain ⟨x, _, rfl⟩ := hu
  rfl
theorem infoTx : (Tryz.prog.info? 9).map (fun i => (i.zero, i.size, i.bytes)) = some (some (.string ByteArray.empty), 1, 16) := by kernel_rfl
theorem TextsAt.cells {w : World} {b o : Nat} {c : Nat} {ls : List ByteArray} (h : TextsAt w (.slice (some ⟨b, o, none⟩) ls.length c) ls) : ∀ j u, (txCells ls)[j]? = some u → w.cell? ((⟨b, o, none⟩ : Addr).add j) = some u := fun j u hu => by
  have hj : j < ls.length := by
    rcases Nat.lt_or_ge j ls.length with h1 | h1
    · exact h1
    · rw [List.getElem?_eq_none (by rw [txCells_length]; exact h1)] at hu; cases hu
  obtain ⟨a', c', e, hlc, hc⟩ := h
  cases e
  obtain ⟨b', o', e, _, h1, _⟩ := hc j hj
  cases e
  rw [Addr.add_lit, h1, ← hu]
  simp [txCells, hj]
theorem TextsAt.of_row {w : World} {base : Nat} {v : Value} {ls : List ByteArray} (h : w.ownsRow base 9 1 v ls.length (txCells ls)) (hs : ∀ x ∈ ls, x.size ≤ maxLen) : TextsAt w v ls := by
  rcases h.2 with ⟨e, h0⟩ | ⟨g, cap, cur, e, hg, hcur, hc1, hc2, _⟩
  · exact ⟨none, 0, by rw [e, h0], ⟨by omega, Nat.zero_le _⟩, fun k hk => by omega⟩
  · refine ⟨some ⟨g, 0, none⟩, cap, e, ⟨hc1, hc2⟩, fun k hk => ⟨g, 0, rfl, (Array.getElem?_eq_some_iff.1 hcur).1, ?_, hs _ (List.getElem_mem hk)⟩⟩
    have := h.cells (g := g) (by rw [e]; rfl) k (.string ls[k]) (by simp [txCells, hk])
    rw [Addr.add_lit] at this
    exact this
theorem TextsAt.sizes {w : World} {v : Value} {ls : List ByteArray} (h : TextsAt w v ls) : ∀ x ∈ ls, x.size ≤ maxLen := fun x hx => by
  obtain ⟨a', c', e, hlc, hc⟩ := h
  obtain ⟨i, hi, rfl⟩ := List.getElem_of_mem hx
  obtain ⟨b', o', e, _, h1, h2⟩ := hc i hi
  exact h2

theorem wpList_append_texts (w : World) {ops : Array Oper} {rest : List Oper} {o : Oper} {a : Act} {Q : Exit → Act → World → Prop} (hgd : o.guard = none) (s x : Operand)
    (ho : o.op = .call { callee := .builtin .append, args := #[s, x], argTypes := #[24, 24] }) (base : Nat) (v : Value) (n : Nat) (xs : List Value) (hs : a.eval s = v) (hown : w.ownsRow base 9 1 v n xs)
    (xv : Value) (nw : List ByteArray) (hx : a.eval x = xv) (hb : TextsAt w xv nw) (hl : n + nw.length ≤ 1000000) (hbase : base ≤ w.heap.size)
    (h : ∀ v' w', w'.ownsRow base 9 1 v' (n + nw.length) (xs ++ txCells nw) → w.grownBy w' v.ownBlock → (v'.ownBlock = v.ownBlock ∨ v'.ownBlock = some w.heap.size) → wpList Tryz.prog ops Q rest (a.put o.dst v') w') :
    wpList Tryz.prog ops Q (o :: rest) a w := by
  obtain ⟨i0, hi0, hz0, hz1, hz2⟩ := info_parts infoTx
  obtain ⟨ax, c, rfl, hlc, -⟩ := id hb
  have hsome : ∀ ad : Addr, ax = some ad → (∀ j u, (txCells nw)[j]? = some u → w.cell? (ad.add j) = some u) → ∃ v' w', (Builtin.append_ #[24, 24] o.type #[v, .slice ax nw.length c]).run Tryz.prog w = .ok v' w' ∧ w'.ownsRow base 9 1 v' (n + nw.length) (xs ++ txCells nw) ∧ w.grownBy w' v.ownBlock ∧ (v'.ownBlock = v.ownBlock ∨ v'.ownBlock = some w.heap.size) := fun ad e hcell => by
    subst e
    obtain ⟨v', w', hr, h2, h3, _, h5⟩ := run_append_own_at (P := Tryz.prog) w base 24 o.type 9 i0 _ 1 16 Tryz.underlying24 hi0 hz0 hz1 hz2 rfl (by decide) v n xs hown ad nw.length c (txCells nw) (by rw [txCells_length]; omega) hcell (txCells_one nw) (by unfold maxLen; omega) (by omega) hbase
    exact ⟨v', w', hr, h2, h3, h5⟩
  have hall : ∃ v' w', (Builtin.append_ #[24, 24] o.type #[v, .slice ax nw.length c]).run Tryz.prog w = .ok v' w' ∧ w'.ownsRow base 9 1 v' (n + nw.length) (xs ++ txCells nw) ∧ w.grownBy w' v.ownBlock ∧ (v'.ownBlock = v.ownBlock ∨ v'.ownBlock = some w.heap.size) := by
    cases nw with
    | nil =>
      cases ax with
      | none => exact ⟨v, w, run_append_owned_none (P := Tryz.prog) (w := w) base 24 o.type 9 i0 1 Tryz.underlying24 hi0 v n xs hown, by simpa [txCells] using hown, ⟨rfl, rfl, rfl, Nat.le_refl _, fun _ _ _ => rfl⟩, Or.inl rfl⟩
      | some ad => exact hsome ad rfl (fun j u hu => by simp [txCells] at hu)
    | cons y r =>
      obtain ⟨a', c', e, -, hc⟩ := id hb
      cases e
      obtain ⟨b, o1, rfl, -⟩ := hc 0 (by simp)
      exact hsome _ rfl hb.cells
  refine wpList_plain hgd fun K hK => ?_
  obtain ⟨v', w', hr, h2, h3, h4⟩ := hall
  unfold Oper.wp execOp
  simp only [ho, resolve, invoke, builtin, Sem.run_bind, Sem.run_pure, Result.andThen_ok, List.map_toArray, List.map_cons, List.map_nil, hs, hx, hr]
  exact hK _ _ (h v' w' h2 h3 h4)

end Go.Proofs.YtdadagbkkaeejaaGreatDoor

/- A set's bytes: a text behind its length. -/
namespace Go.Proofs.YtdadagbkkaeejaaGreatDoor
open Go.RowKit Go.Maps

def byteVals (bs : List UInt8) : List Value := bs.map fun b => .int .u8 b.toNat
theorem byteVals_append (a b : List UInt8) : byteVals (a ++ b) = byteVals a ++ byteVals b := by simp [byteVals]
theorem byteVals_length (a : List UInt8) : (byteVals a).length = a.length := by simp [byteVals]
theorem infoU8 : (Tryz.prog.info? 5).map (fun i => (i.zero, i.size, i.bytes)) = some (some (.int .u8 0), 1, 1) := by kernel_rfl
def Row (w : World) (base : Nat) (v : Value) (bs : List UInt8) : Prop := w.ownsRow base 5 1 v bs.length (byteVals bs)
def txt (s : ByteArray) : List UInt8 := [UInt8.ofNat (s.size / 256), UInt8.ofNat s.size] ++ s.data.toList
theorem txt_length (s : ByteArray) : (txt s).length = s.size + 2 := by
  unfold txt
  rw [List.length_append, Array.length_toList]
  show 2 + s.size = _
  omega

/-- Two steps behind one row. -/
theorem grown_two {w w1 w2 : World} {v v1 : Value} (h1 : w.grownBy w1 v.ownBlock) (hv : v1.ownBlock = v.ownBlock ∨ ∃ k, v1.ownBlock = some k ∧ w.heap.size ≤ k) (h2 : w1.grownBy w2 v1.ownBlock) : w.grownBy w2 v.ownBlock :=
  ⟨h2.os.trans h1.os, h2.tape.trans h1.tape, h2.output.trans h1.output, Nat.le_trans h1.size h2.size, fun i hi hne => (h2.block i (Nat.lt_of_lt_of_le hi h1.size) (fun e => by
    rcases hv with e1 | ⟨k, e1, hk⟩
    · exact hne (e.trans e1)
    · rw [e1] at e
      cases e
      omega)).trans (h1.block i hi hne)⟩

end Go.Proofs.YtdadagbkkaeejaaGreatDoor

/- Blocks that may have turned, said by a predicate. -/
namespace Go.Proofs.YtdadagbkkaeejaaGreatDoor
open Go.RowKit Go.Maps

/-- Blocks outside O are as they were. -/
structure Kept (O : Nat → Prop) (w w' : World) : Prop where
  os : w'.os = w.os
  tape : w'.tape = w.tape
  output : w'.output = w.output
  size : w.heap.size ≤ w'.heap.size
  block : ∀ k, k < w.heap.size → ¬ O k → w'.heap[k]? = w.heap[k]?

theorem Kept.refl (O : Nat → Prop) (w : World) : Kept O w w := ⟨rfl, rfl, rfl, Nat.le_refl _, fun _ _ _ => rfl⟩
theorem Kept.trans {O O' : Nat → Prop} {a b c : World} (h : Kept O a b) (k : Kept O' b c) (hO : ∀ i, i < a.heap.size → O' i → O i) : Kept O a c :=
  ⟨k.os.trans h.os, k.tape.trans h.tape, k.output.trans h.output, Nat.le_trans h.size k.size, fun i hi hn => (k.block i (Nat.lt_of_lt_of_le hi h.size) (fun h' => hn (hO i hi h'))).trans (h.block i hi hn)⟩
theorem Kept.mono {O O' : Nat → Prop} {a b : World} (h : Kept O a b) (hO : ∀ i, i < a.heap.size → O i → O' i) : Kept O' a b :=
  ⟨h.os, h.tape, h.output, h.size, fun i hi hn => h.block i hi (fun h' => hn (hO i hi h'))⟩
theorem Kept.drewN {O : Nat → Prop} {a b : World} (h : Kept O a b) (n : Nat) : Kept O a (b.drewN n) := ⟨h.os, h.tape, h.output, h.size, h.block⟩
theorem Kept.alloc {O : Nat → Prop} {a b : World} (h : Kept O a b) (o : Obj) : Kept O a (b.alloc o) :=
  ⟨h.os, h.tape, h.output, Nat.le_trans h.size (by simp), fun i hi hn => (Below.heap_alloc b o i (Nat.lt_of_lt_of_le hi h.size)).trans (h.block i hi hn)⟩
theorem Kept.setCell {O : Nat → Prop} {a b : World} (h : Kept O a b) {p : Addr} (hp : p.block < a.heap.size → O p.block) (u : Value) : Kept O a (b.setCell p u) :=
  ⟨h.os, h.tape, h.output, Nat.le_trans h.size (by simp [World.setCell]), fun i hi hn => (Below.heap_setCell b p u i (fun e => hn (by subst e; exact hp hi))).trans (h.block i hi hn)⟩
theorem Kept.grown {O : Nat → Prop} {a b c : World} {row : Option Nat} (h : Kept O a b) (g : b.grownBy c row) (hr : ∀ k, k < a.heap.size → row = some k → O k) : Kept O a c :=
  ⟨g.os.trans h.os, g.tape.trans h.tape, g.output.trans h.output, Nat.le_trans h.size g.size, fun i hi hn => (g.block i (Nat.lt_of_lt_of_le hi h.size) (fun e => hn (hr i hi e.symm))).trans (h.block i hi hn)⟩
theorem Kept.below {O : Nat → Prop} {a b c : World} (h : Kept O a b) (g : Below b.heap.size b c) : Kept O a c :=
  ⟨g.os.trans h.os, g.tape.trans h.tape, g.output.trans h.output, Nat.le_trans h.size g.size, fun i hi hn => (g.block i (Nat.lt_of_lt_of_le hi h.size)).trans (h.block i hi hn)⟩
theorem Kept.toBelow {O : Nat → Prop} {a b : World} {B : Nat} (h : Kept O a b) (hB : B ≤ a.heap.size) (hO : ∀ i, O i → B ≤ i) : Below B a b :=
  ⟨h.os, h.tape, h.output, h.size, fun i hi => h.block i (by omega) (fun h' => by have := hO i h'; omega)⟩
theorem Kept.ownsRow {O : Nat → Prop} {w w' : World} (h : Kept O w w') {base : Nat} {e : TypeId} {size : Nat} {v : Value} {n : Nat} {xs : List Value} (ho : w.ownsRow base e size v n xs) (hb : ∀ k, v.ownBlock = some k → ¬ O k) : w'.ownsRow base e size v n xs := by
  refine ⟨ho.1, ?_⟩
  rcases ho.2 with h2 | ⟨g, cap, cur, rfl, hg, hh, r⟩
  · exact Or.inl h2
  · exact Or.inr ⟨g, cap, cur, rfl, hg, (h.block g (Array.getElem?_eq_some_iff.1 hh).1 (hb g rfl)).trans hh, r⟩
theorem Kept.heap {O : Nat → Prop} {w w' : World} (h : Kept O w w') {k : Nat} {o : Obj} (ho : w.heap[k]? = some o) (hk : ¬ O k) : w'.heap[k]? = some o :=
  (h.block k (Array.getElem?_eq_some_iff.1 ho).1 hk).trans ho

end Go.Proofs.YtdadagbkkaeejaaGreatDoor
