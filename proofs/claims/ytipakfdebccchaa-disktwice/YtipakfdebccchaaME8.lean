/- Slices of names; the document's sorted, List, Durable. -/
import Derived.Test.YtipakfdebccchaaME7
import Derived.Test.YtipakfdebccchaaME5
namespace Go.Proofs.Ytipakfdebccchaa
open Go.RowKit Go.Maps Go.Sort

/-- A slice that reads as these texts. -/
def StrsAt (w : World) (v : Value) (xs : List (List UInt8)) : Prop :=
  ∃ a c, v = .slice a xs.length c ∧ (xs.length ≤ c ∧ c ≤ maxLen) ∧ ∀ j (hj : j < xs.length), ∃ b o, a = some ⟨b, o, none⟩ ∧ b < w.heap.size ∧ w.cell? ⟨b, o + j, none⟩ = some (encStr xs[j])
theorem StrsAt.below {w w' : World} {v : Value} {xs : List (List UInt8)} (h : StrsAt w v xs) (hb : Below w.heap.size w w') : StrsAt w' v xs := by
  obtain ⟨a, c, e, hlc, hk⟩ := h
  refine ⟨a, c, e, hlc, fun k hlt => ?_⟩
  obtain ⟨b, o, ha, hl, h1⟩ := hk k hlt
  have := hb.size
  exact ⟨b, o, ha, by omega, (hb.cell (p := ⟨b, o + k, none⟩) hl).trans h1⟩
theorem StrsAt.of_row {w : World} {base : Nat} {v : Value} {xs : List (List UInt8)} (h : w.ownsRow base 9 1 v xs.length (xs.map encStr)) : StrsAt w v xs := by
  rcases id h.2 with ⟨e, h0⟩ | ⟨g, cap, cur, e, hg, hcur, hc1, hc2, _⟩
  · exact ⟨none, 0, by rw [e, h0], ⟨by omega, Nat.zero_le _⟩, fun k hk => by omega⟩
  · refine ⟨some ⟨g, 0, none⟩, cap, e, ⟨hc1, hc2⟩, fun k hk => ⟨g, 0, rfl, (Array.getElem?_eq_some_iff.1 hcur).1, ?_⟩⟩
    have := h.cells (g := g) (by rw [e]; rfl) k (encStr xs[k]) (by simp [hk])
    rw [Addr.add_lit] at this
    exact this
theorem StrsAt.take {w : World} {a : Option Addr} {n c : Nat} {xs : List (List UInt8)} (h : StrsAt w (.slice a n c) xs) (k : Nat) (hk : k ≤ n) : StrsAt w (.slice a k c) (xs.take k) := by
  obtain ⟨a', c', e, hlc, hc⟩ := h
  cases e
  have hl : (xs.take k).length = k := by simp; omega
  refine ⟨a, c, by rw [hl], ⟨by omega, hlc.2⟩, fun i hi => ?_⟩
  obtain ⟨b, o, e, h1, h2⟩ := hc i (by omega)
  exact ⟨b, o, e, h1, by rw [h2]; simp⟩
theorem StrsAt.drop {w : World} {b o n c : Nat} {xs : List (List UInt8)} (h : StrsAt w (.slice (some ⟨b, o, none⟩) n c) xs) (k : Nat) (hk : k ≤ n) : StrsAt w (.slice (some ⟨b, o + k, none⟩) (n - k) (c - k)) (xs.drop k) := by
  obtain ⟨a', c', e, hlc, hc⟩ := h
  cases e
  have hl : (xs.drop k).length = xs.length - k := by simp
  refine ⟨_, _, by rw [hl], ⟨by omega, by have := hlc.2; omega⟩, fun i hi => ?_⟩
  obtain ⟨b', o', e, h1, h2⟩ := hc (k + i) (by omega)
  cases e
  refine ⟨b, o + k, rfl, h1, ?_⟩
  rw [show o + k + i = o + (k + i) by omega, h2]
  simp
theorem StrsAt.nil {w : World} {a : Option Addr} {c : Nat} (hc : c ≤ maxLen) : StrsAt w (.slice a 0 c) [] := ⟨a, c, rfl, ⟨Nat.zero_le _, hc⟩, fun j hj => by simp at hj⟩
theorem StrsAt.lone {w : World} {g : Nat} {x : List UInt8} {t : TypeId} {fr : Nat × Nat} (h : w.heap[g]? = some (.cells #[encStr x] t fr)) : StrsAt w (.slice (some ⟨g, 0, none⟩) 1 1) [x] := by
  refine ⟨some ⟨g, 0, none⟩, 1, rfl, ⟨Nat.le_refl _, by decide⟩, fun k hk => ?_⟩
  have : k = 0 := by simpa using hk
  subst this
  exact ⟨g, 0, rfl, (Array.getElem?_eq_some_iff.1 h).1, World.news_of_block h 0 (encStr x) rfl⟩
theorem strs_one (l : List (List UInt8)) : ∀ u ∈ l.map encStr, u.oneCell' = true := fun u hu => by
  simp only [List.mem_map] at hu
  obtain ⟨x, _, rfl⟩ := hu
  rfl

theorem wpList_append_strs (w : World) {ops : Array Oper} {rest : List Oper} {o : Oper} {a : Act} {Q : Exit → Act → World → Prop} (hgd : o.guard = none) (s x : Operand)
    (ho : o.op = .call { callee := .builtin .append, args := #[s, x], argTypes := #[45, 45] }) (base : Nat) (v : Value) (n : Nat) (xs : List Value) (hs : a.eval s = v) (hown : w.ownsRow base 9 1 v n xs)
    (xv : Value) (nw : List (List UInt8)) (hx : a.eval x = xv) (hb : StrsAt w xv nw) (hl : n + nw.length ≤ 1000000) (hbase : base ≤ w.heap.size)
    (h : ∀ v' w', w'.ownsRow base 9 1 v' (n + nw.length) (xs ++ nw.map encStr) → w.grownBy w' v.ownBlock → wpList Try.prog ops Q rest (a.put o.dst v') w') :
    wpList Try.prog ops Q (o :: rest) a w := by
  obtain ⟨i0, hi0, hz0, hz1, hz2⟩ := info_parts info9
  obtain ⟨ax, c, rfl, hlc, hcl⟩ := id hb
  have hsome : ∀ ad : Addr, ax = some ad → (∀ j u, (nw.map encStr)[j]? = some u → w.cell? (ad.add j) = some u) → ∃ v' w', (Builtin.append_ #[45, 45] o.type #[v, .slice ax nw.length c]).run Try.prog w = .ok v' w' ∧ w'.ownsRow base 9 1 v' (n + nw.length) (xs ++ nw.map encStr) ∧ w.grownBy w' v.ownBlock := fun ad e hcell => by
    subst e
    obtain ⟨v', w', hr, h2, h3, _, h5⟩ := run_append_own_at (P := Try.prog) w base 45 o.type 9 i0 _ 1 16 Try.underlying45 hi0 hz0 hz1 hz2 rfl (by decide) v n xs hown ad nw.length c (nw.map encStr) (by rw [List.length_map]; omega) hcell (strs_one nw) (by unfold maxLen; omega) (by omega) hbase
    exact ⟨v', w', hr, h2, h3⟩
  have hall : ∃ v' w', (Builtin.append_ #[45, 45] o.type #[v, .slice ax nw.length c]).run Try.prog w = .ok v' w' ∧ w'.ownsRow base 9 1 v' (n + nw.length) (xs ++ nw.map encStr) ∧ w.grownBy w' v.ownBlock := by
    cases nw with
    | nil =>
      cases ax with
      | none => exact ⟨v, w, run_append_owned_none (P := Try.prog) (w := w) base 45 o.type 9 i0 1 Try.underlying45 hi0 v n xs hown, by simpa using hown, ⟨rfl, rfl, rfl, Nat.le_refl _, fun _ _ _ => rfl⟩⟩
      | some ad => exact hsome ad rfl (fun j u hu => by simp at hu)
    | cons y r =>
      obtain ⟨b, o1, rfl, -⟩ := hcl 0 (by simp)
      refine hsome _ rfl (fun j u hu => ?_)
      have hj : j < (y :: r).length := by
        have := (List.getElem?_eq_some_iff.1 hu).1
        simpa using this
      obtain ⟨b', o', e, _, h1⟩ := hcl j hj
      cases e
      rw [Addr.add_lit, h1, ← hu, List.getElem?_map, List.getElem?_eq_getElem hj]
      rfl
  refine wpList_plain hgd fun K hK => ?_
  obtain ⟨v', w', hr, h2, h3⟩ := hall
  unfold Oper.wp execOp
  simp only [ho, resolve, invoke, builtin, Sem.run_bind, Sem.run_pure, Result.andThen_ok, List.map_toArray, List.map_cons, List.map_nil, hs, hx, hr]
  exact hK _ _ (h v' w' h2 h3)

/-- A name put where it belongs. -/
def insN (xs : List (List UInt8)) (n : List UInt8) : List (List UInt8) := xs.takeWhile (fun y => Op.bytesLess y n) ++ n :: xs.dropWhile (fun y => Op.bytesLess y n)
def UptoN (xs : List (List UInt8)) (n : List UInt8) (k : Nat) : Prop := ∀ i (h : i < xs.length), i < k → Op.bytesLess xs[i] n = true
theorem UptoN.split : ∀ {xs : List (List UInt8)} {n : List UInt8} {k : Nat}, UptoN xs n k → k ≤ xs.length → (∀ h : k < xs.length, Op.bytesLess xs[k] n = false) → insN xs n = xs.take k ++ n :: xs.drop k
  | [], _, k, _, hk, _ => by
    have : k = 0 := by simpa using hk
    subst this
    rfl
  | y :: r, n, 0, _, _, h2 => by
    have := h2 (by simp)
    simp at this
    simp [insN, this]
  | y :: r, n, k + 1, h1, hk, h2 => by
    have h3 := h1 0 (by simp) (by omega)
    simp at h3
    have := UptoN.split (xs := r) (n := n) (k := k) (fun i hi hlt => by have := h1 (i + 1) (by simpa using hi) (by omega); simpa using this) (by simpa using hk) (fun h => by have := h2 (by simpa using h); simpa using this)
    unfold insN at *
    simp [h3, this]
/-- What the first names come to. -/
def sortN (p : List UInt8) (l : List (ByteArray × Int)) : List (List UInt8) := l.foldl (fun xs e => if Lib.hasPrefix e.1.data.toList p = true then insN xs e.1.data.toList else xs) []
theorem sortN_take (p : List UInt8) (l : List (ByteArray × Int)) (k : Nat) (hk : k < l.length) : sortN p (l.take (k + 1)) = if Lib.hasPrefix l[k].1.data.toList p = true then insN (sortN p (l.take k)) l[k].1.data.toList else sortN p (l.take k) := by
  unfold sortN
  rw [List.take_succ_eq_append_getElem hk, List.foldl_append]
  rfl

theorem less_le {x y : List UInt8} (h : Op.bytesLess x y = true) : leB x y = true := by
  rw [bytesLess_eq] at h
  simp only [decide_eq_true_eq] at h
  simp only [leB, decide_eq_true_eq]
  exact List.le_of_lt h
theorem noless_le {x y : List UInt8} (h : Op.bytesLess x y = false) : leB y x = true := by
  rw [bytesLess_eq] at h
  simp only [decide_eq_false_iff_not] at h
  simp only [leB, decide_eq_true_eq]
  exact List.not_lt.1 h
theorem leB_trans {x y z : List UInt8} (h1 : leB x y = true) (h2 : leB y z = true) : leB x z = true := by
  simp only [leB, decide_eq_true_eq] at *
  exact List.le_trans h1 h2
theorem insN_perm (xs : List (List UInt8)) (n : List UInt8) : (insN xs n).Perm (n :: xs) := by
  unfold insN
  refine List.perm_middle.trans ?_
  rw [List.takeWhile_append_dropWhile]
theorem insN_sorted {xs : List (List UInt8)} (h : xs.Pairwise fun a b => leB a b = true) (n : List UInt8) : (insN xs n).Pairwise fun a b => leB a b = true := by
  induction xs with
  | nil => simp [insN]
  | cons y r ih =>
    rw [List.pairwise_cons] at h
    cases e : Op.bytesLess y n
    · have e1 : insN (y :: r) n = n :: y :: r := by simp [insN, e]
      rw [e1, List.pairwise_cons, List.pairwise_cons]
      refine ⟨fun z hz => ?_, h.1, h.2⟩
      rcases List.mem_cons.1 hz with rfl | hz
      · exact noless_le e
      · exact leB_trans (noless_le e) (h.1 z hz)
    · have e1 : insN (y :: r) n = y :: insN r n := by simp [insN, e]
      rw [e1, List.pairwise_cons]
      refine ⟨fun z hz => ?_, ih h.2⟩
      rcases List.mem_cons.1 ((insN_perm r n).mem_iff.1 hz) with rfl | hz
      · exact less_le e
      · exact h.1 z hz
theorem sortN_is (p : List UInt8) (l : List (ByteArray × Int)) : sortN p l = namesL l p := by
  have key : ∀ (l : List (ByteArray × Int)) (xs : List (List UInt8)), xs.Pairwise (fun a b => leB a b = true) → (l.foldl (fun xs e => if Lib.hasPrefix e.1.data.toList p = true then insN xs e.1.data.toList else xs) xs).Pairwise (fun a b => leB a b = true) ∧ (l.foldl (fun xs e => if Lib.hasPrefix e.1.data.toList p = true then insN xs e.1.data.toList else xs) xs).Perm (xs ++ (l.map fun e => e.1.data.toList).filter fun x => Lib.hasPrefix x p) := by
    intro l
    induction l with
    | nil => intro xs h; exact ⟨h, by simp⟩
    | cons e r ih =>
      intro xs h
      rw [List.foldl_cons]
      cases hp : Lib.hasPrefix e.1.data.toList p
      · have := ih xs h
        simp only [Bool.false_eq_true, if_false]
        refine ⟨this.1, this.2.trans ?_⟩
        simp [hp]
      · have := ih _ (insN_sorted h e.1.data.toList)
        simp only [if_true]
        refine ⟨this.1, this.2.trans ?_⟩
        simp only [List.map_cons, List.filter_cons, hp, if_true]
        exact ((insN_perm xs _).append_right _).trans (List.perm_middle.symm)
  obtain ⟨h1, h2⟩ := key l [] List.Pairwise.nil
  have h3 : (sortN p l).mergeSort leB = sortN p l := List.mergeSort_of_pairwise h1
  unfold namesL
  rw [← h3]
  exact mergeSort_of_perm h2

end Go.Proofs.Ytipakfdebccchaa
