/- append of texts. -/
import Derived.Test.YtobkomfeojhhbaaDoorTx
import Derived.Test.YtobkomfeojhhbaaDoorRo
namespace Go.Proofs.YtobkomfeojhhbaaDoor
open Go.RowKit Go.Maps Go.Sort

def txCells (l : List ByteArray) : List Value := l.map .string
theorem txCells_length (l : List ByteArray) : (txCells l).length = l.length := by simp [txCells]
theorem txCells_one (l : List ByteArray) : ∀ u ∈ txCells l, u.oneCell' = true := fun u hu => by
  simp only [txCells, List.mem_map] at hu
  obtain ⟨x, _, rfl⟩ := hu
  rfl
theorem infoTx : (Tryd.prog.info? 9).map (fun i => (i.zero, i.size, i.bytes)) = some (some (.string ByteArray.empty), 1, 16) := by kernel_rfl
theorem TextsAt.cells {w : World} {b o : Nat} {c : Nat} {ls : List ByteArray} (h : TextsAt w (.slice (some ⟨b, o, none⟩) ls.length c) ls) : ∀ j u, (txCells ls)[j]? = some u → w.cell? ((⟨b, o, none⟩ : Addr).add j) = some u := fun j u hu => by
  have hj : j < ls.length := by
    rcases Nat.lt_or_ge j ls.length with h1 | h1
    · exact h1
    · rw [List.getElem?_eq_none (by rw [txCells_length]; exact h1)] at hu; cases hu
  obtain ⟨a', c', e, hlc, hc⟩ := h
  cases e
  obtain ⟨b', o', e, _, h1, _⟩ := hc j hj
  cases e
  rw [Addr.add_lit, h1, ← hu]
  simp [txCells, hj]
theorem TextsAt.of_row {w : World} {base : Nat} {v : Value} {ls : List ByteArray} (h : w.ownsRow base 9 1 v ls.length (txCells ls)) (hs : ∀ x ∈ ls, x.size ≤ maxLen) : TextsAt w v ls := by
  rcases h.2 with ⟨e, h0⟩ | ⟨g, cap, cur, e, hg, hcur, hc1, hc2, _⟩
  · exact ⟨none, 0, by rw [e, h0], ⟨by omega, Nat.zero_le _⟩, fun k hk => by omega⟩
  · refine ⟨some ⟨g, 0, none⟩, cap, e, ⟨hc1, hc2⟩, fun k hk => ⟨g, 0, rfl, (Array.getElem?_eq_some_iff.1 hcur).1, ?_, hs _ (List.getElem_mem hk)⟩⟩
    have := h.cells (g := g) (by rw [e]; rfl) k (.string ls[k]) (by simp [txCells, hk])
    rw [Addr.add_lit] at this
    exact this
theorem TextsAt.sizes {w : World} {v : Value} {ls : List ByteArray} (h : TextsAt w v ls) : ∀ x ∈ ls, x.size ≤ maxLen := fun x hx => by
  obtain ⟨a', c', e, hlc, hc⟩ := h
  obtain ⟨i, hi, rfl⟩ := List.getElem_of_mem hx
  obtain ⟨b', o', e, _, h1, h2⟩ := hc i hi
  exact h2

theorem wpList_append_texts (w : World) {ops : Array Oper} {rest : List Oper} {o : Oper} {a : Act} {Q : Exit → Act → World → Prop} (hgd : o.guard = none) (s x : Operand)
    (ho : o.op = .call { callee := .builtin .append, args := #[s, x], argTypes := #[30, 30] }) (base : Nat) (v : Value) (n : Nat) (xs : List Value) (hs : a.eval s = v) (hown : w.ownsRow base 9 1 v n xs)
    (xv : Value) (nw : List ByteArray) (hx : a.eval x = xv) (hb : TextsAt w xv nw) (hl : n + nw.length ≤ 1000000) (hbase : base ≤ w.heap.size)
    (h : ∀ v' w', w'.ownsRow base 9 1 v' (n + nw.length) (xs ++ txCells nw) → w.grownBy w' v.ownBlock → (v'.ownBlock = v.ownBlock ∨ v'.ownBlock = some w.heap.size) → wpList Tryd.prog ops Q rest (a.put o.dst v') w') :
    wpList Tryd.prog ops Q (o :: rest) a w := by
  obtain ⟨i0, hi0, hz0, hz1, hz2⟩ := info_parts infoTx
  obtain ⟨ax, c, rfl, hlc, -⟩ := id hb
  have hsome : ∀ ad : Addr, ax = some ad → (∀ j u, (txCells nw)[j]? = some u → w.cell? (ad.add j) = some u) → ∃ v' w', (Builtin.append_ #[30, 30] o.type #[v, .slice ax nw.length c]).run Tryd.prog w = .ok v' w' ∧ w'.ownsRow base 9 1 v' (n + nw.length) (xs ++ txCells nw) ∧ w.grownBy w' v.ownBlock ∧ (v'.ownBlock = v.ownBlock ∨ v'.ownBlock = some w.heap.size) := fun ad e hcell => by
    subst e
    obtain ⟨v', w', hr, h2, h3, _, h5⟩ := run_append_own_at (P := Tryd.prog) w base 30 o.type 9 i0 _ 1 16 Tryd.underlying30 hi0 hz0 hz1 hz2 rfl (by decide) v n xs hown ad nw.length c (txCells nw) (by rw [txCells_length]; omega) hcell (txCells_one nw) (by unfold maxLen; omega) (by omega) hbase
    exact ⟨v', w', hr, h2, h3, h5⟩
  have hall : ∃ v' w', (Builtin.append_ #[30, 30] o.type #[v, .slice ax nw.length c]).run Tryd.prog w = .ok v' w' ∧ w'.ownsRow base 9 1 v' (n + nw.length) (xs ++ txCells nw) ∧ w.grownBy w' v.ownBlock ∧ (v'.ownBlock = v.ownBlock ∨ v'.ownBlock = some w.heap.size) := by
    cases nw with
    | nil =>
      cases ax with
      | none => exact ⟨v, w, run_append_owned_none (P := Tryd.prog) (w := w) base 30 o.type 9 i0 1 Tryd.underlying30 hi0 v n xs hown, by simpa [txCells] using hown, ⟨rfl, rfl, rfl, Nat.le_refl _, fun _ _ _ => rfl⟩, Or.inl rfl⟩
      | some ad => exact hsome ad rfl (fun j u hu => by simp [txCells] at hu)
    | cons y r =>
      obtain ⟨a', c', e, -, hc⟩ := id hb
      cases e
      obtain ⟨b, o1, rfl, -⟩ := hc 0 (by simp)
      exact hsome _ rfl hb.cells
  refine wpList_plain hgd fun K hK => ?_
  obtain ⟨v', w', hr, h2, h3, h4⟩ := hall
  unfold Oper.wp execOp
  simp only [ho, resolve, invoke, builtin, Sem.run_bind, Sem.run_pure, Result.andThen_ok, List.map_toArray, List.map_cons, List.map_nil, hs, hx, hr]
  exact hK _ _ (h v' w' h2 h3 h4)

end Go.Proofs.YtobkomfeojhhbaaDoor
