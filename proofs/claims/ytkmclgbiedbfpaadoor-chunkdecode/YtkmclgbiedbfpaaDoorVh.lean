/- Small pieces of ChunkBits. -/
import Derived.Test.YtkmclgbiedbfpaaDoorVf
import Derived.Test.YtkmclgbiedbfpaaDoorVg
import Derived.Test.YtkmclgbiedbfpaaDoorKt
namespace Go.Proofs.YtkmclgbiedbfpaaDoor
open Go.RowKit Go.Maps Go.Shelf

set_option maxRecDepth 100000 in
set_option maxHeartbeats 1000000 in
theorem cut_any (v : Value) (l : List Sm) (w : World) (h : SmpAt w v l) :
    Calls Tryd.prog 9 #[v] w fun e w' => ∃ v', e = .returned v' ∧ SmpAt w v' (l.take 130) ∧ w' = w := by
  obtain ⟨a, c, rfl, hlc, -, -⟩ := id h
  have hmx : c ≤ 9223372036854775807 := by have h1 := hlc; unfold maxLen at h1; omega
  by_cases h130 : 130 < l.length
  · have hS := h.take 130 (by omega)
    have h1 : (130 : Int) < (l.length : Int) := by omega
    have h2 : (130 : Int) ≤ (c : Int) := by omega
    obtain ⟨b, o, rfl, -⟩ := h.one 0 (by omega)
    have HS : Hid (SmpAt w (.slice (some ⟨b, o, none⟩) 130 c) (l.take 130)) := hS
    clear h hS
    go_enter Tryd.func9, Tryd.ntmps9
    go_wp2
    go_ret
    exact ⟨_, rfl, HS.out, rfl⟩
  · have h1 : (l.length : Int) ≤ 130 := by omega
    have HS : Hid (SmpAt w (.slice a l.length c) (l.take 130)) := by
      rw [List.take_of_length_le (by omega)]
      exact h
    clear h
    go_enter Tryd.func9, Tryd.ntmps9
    go_wp2
    go_ret
    exact ⟨_, rfl, HS.out, rfl⟩

set_option maxRecDepth 100000 in
set_option maxHeartbeats 1000000 in
theorem count_any (base P : Nat) (l : List Sm) (w : World) (h : WrL w base P l) :
    Calls Tryd.prog 18 #[.pointer (some ⟨P, 0, none⟩)] w fun e w' => e = .returned (.int .i64 l.length) ∧ w' = w := by
  obtain ⟨c0, -⟩ := Wr.cells h
  go_enter Tryd.func18, Tryd.ntmps18
  go_wp2
  go_ret
  exact ⟨rfl, rfl⟩
theorem WrL.keep {w w' : World} {base P : Nat} {l : List Sm} (h : WrL w base P l) (hb : Below w.heap.size w w') : WrL w' base P l := by
  obtain ⟨h1, h2, a, c, h3, h4⟩ := h
  exact ⟨h1, Nat.le_trans h2 hb.size, a, c, (hb.block P (Array.getElem?_eq_some_iff.1 h3).1).trans h3, row_below h4 hb⟩
theorem SmpAt.cells {w : World} {ad : Addr} {n c : Nat} {l : List Sm} (h : SmpAt w (.slice (some ad) n c) l) : ∀ j u, (smCells l)[j]? = some u → w.cell? (ad.add j) = some u := fun j u hu => by
  obtain ⟨a', c', e, hlc, -, hc⟩ := h
  cases e
  have hj : j < l.length * 2 := by
    rcases Nat.lt_or_ge j (l.length * 2) with h1 | h1
    · exact h1
    · rw [List.getElem?_eq_none (by rw [smCells_length]; exact h1)] at hu; cases hu
  obtain ⟨b', o', e, _, h1, h2⟩ := hc (j / 2) (by omega)
  cases e
  have h3 := smCells_at l (j / 2) (by omega)
  rw [Addr.add_lit]
  rcases (show j = j / 2 * 2 ∨ j = j / 2 * 2 + 1 by omega) with e | e
  · have e2 := h3.1
    rw [← e, hu] at e2
    rw [← e] at h1
    rw [h1, e2]
  · have e2 := h3.2
    rw [← e, hu] at e2
    rw [Nat.add_assoc, ← e] at h2
    rw [h2, e2]
theorem wpList_append_smps (w : World) {ops : Array Oper} {rest : List Oper} {o : Oper} {a : Act} {Q : Exit → Act → World → Prop} (hgd : o.guard = none) (s x : Operand)
    (ho : o.op = .call { callee := .builtin .append, args := #[s, x], argTypes := #[22, 22] }) (base : Nat) (v : Value) (n : Nat) (xs : List Value) (hs : a.eval s = v) (hown : w.ownsRow base 35 2 v n xs)
    (xv : Value) (nw : List Sm) (hx : a.eval x = xv) (hb : SmpAt w xv nw) (hl : n + nw.length ≤ 1000000) (hbase : base ≤ w.heap.size)
    (h : ∀ v' w', w'.ownsRow base 35 2 v' (n + nw.length) (xs ++ smCells nw) → w.grownBy w' v.ownBlock → wpList Tryd.prog ops Q rest (a.put o.dst v') w') : wpList Tryd.prog ops Q (o :: rest) a w := by
  obtain ⟨i0, hi0, hz0, hz1, hz2⟩ := info_parts infoSm
  obtain ⟨ax, c, rfl, hlc, hn, hc⟩ := id hb
  cases ax with
  | none =>
    obtain ⟨rfl, rfl⟩ := hn rfl
    exact wpList_append_own_none hgd s x 22 ho base 35 i0 2 Tryd.underlying22 hi0 v n xs hs hown hx (h v w (by simpa [smCells] using hown) ⟨rfl, rfl, rfl, Nat.le_refl _, fun _ _ _ => rfl⟩)
  | some ad => exact wpList_append_own_at w hgd s x 22 ho base 35 i0 _ 2 16 Tryd.underlying22 hi0 hz0 hz1 hz2 rfl (by decide) v n xs hs hown ad nw.length c (smCells nw) hx (by rw [smCells_length]) hb.cells (smCells_one nw) (by unfold maxLen; omega) (by omega) hbase (fun v' w' h1 h2 _ _ => h v' w' h1 h2)

end Go.Proofs.YtkmclgbiedbfpaaDoor
