/- Texts that belong together. -/
import Derived.Test.YtjnjmpfldbkciaaGreatMD1
import Derived.Test.YtjnjmpfldbkciaaGreatC2
import Derived.Lib.SliceRun
/- Pieces that hold nothing are taken out. -/
namespace Go.Proofs.YtjnjmpfldbkciaaGreat
open Go.RowKit Go.Maps Go.Sort

def fineG (g : Gn) : Bool := fineB g.p
theorem badRow (x : Gn) : decide (x.hi < x.lo) = !fineG x := by
  unfold fineG fineB Gn.p
  by_cases h : x.hi < x.lo
  · rw [decide_eq_true h]
    simp
    omega
  · rw [decide_eq_false h]
    simp
    omega

set_option maxRecDepth 100000 in
set_option maxHeartbeats 1000000 in
theorem bad_any (x : Gn) (a : Option Addr) (n c : Nat) (hv : x.v = .slice a n c) (w : World) :
    Calls Tryz.prog 19 #[.agg #[x.v, .int .i64 x.lo, .int .i64 x.hi]] w fun e w' => e = .returned (.bool (!fineG x)) ∧ GrW w w' := by
  rw [← badRow]
  obtain ⟨xv, xls, xlo, xhi⟩ := x
  dsimp only at hv ⊢
  subst hv
  have HB : Hid (∀ o, GrW w (w.alloc o)) := fun o => (GrW.refl w).alloc o
  go_enter Tryz.func19, Tryz.ntmps19
  go_wp2
  go_ret
  exact ⟨by simp, HB.out _⟩

theorem GrW.row {w w' : World} (h : GrW w w') {base e size n : Nat} {v : Value} {xs : List Value} (ho : w.ownsRow base e size v n xs) : w'.ownsRow base e size v n xs := row_below ho h.below

/-- The first that is bad, or the length. -/
def firstB : List Gn → Nat
  | [] => 0
  | x :: r => if fineG x then firstB r + 1 else 0
theorem firstB_le (l : List Gn) : firstB l ≤ l.length := by
  induction l with
  | nil => exact Nat.le_refl _
  | cons x r ih =>
    unfold firstB
    split
    · simp
      exact ih
    · exact Nat.zero_le _

set_option maxRecDepth 100000 in
set_option maxHeartbeats 2000000 in
/-- slices.IndexFunc: -1 where all are fine; else a place ahead of which all are fine, and it is not. -/
theorem indexBad_any (a : Option Addr) (n c : Nat) (l : List Gn) (w : World) (h : RowAt w (.slice a n c) 3 n (gnC l)) (hn : l.length = n) (hg : ∀ g ∈ l, ∃ a n c, g.v = .slice a n c) (hl : n ≤ 1000) :
    Calls Tryz.prog 36 #[.slice a n c, .func (.func 19) #[] #[]] w fun e w' => (∃ i : Int, e = .returned (.int .i64 i) ∧ ((i = -1 ∧ ∀ g ∈ l, fineG g = true) ∨ (∃ k : Nat, i = k ∧ ∃ h : k < l.length, fineG l[k] = false ∧ ∀ g ∈ l.take k, fineG g = true))) ∧ GrW w w' := by
  have HC : Hid (RowAt w (.slice a n c) 3 n (gnC l)) := h
  have HN : Hid (l.length = n) := hn
  have HG : Hid (∀ g ∈ l, ∃ a n c, g.v = .slice a n c) := hg
  have heC : ∀ args w, (callFunc 19 args).run Tryz.prog w = .ok (.enter 19 args) w := enters_of Tryz.func19 (by kernel_rfl) rfl
  clear h hn hg
  go_enter Tryz.func36, Tryz.ntmps36
  go_wp2
  go_loopw [5, 8] (fun _ i wr => ∃ k : Nat, k ≤ n ∧ i = .int .i64 k ∧ Hid (∀ g ∈ l.take k, fineG g = true) ∧ Hid (GrW w wr)) (fun _ i _ => n - (intOf i).toNat)
  case atStart => exact ⟨0, Nat.zero_le _, rfl, fun g hg => by simp at hg, GrW.refl _⟩
  case round =>
    obtain ⟨k, hk, rfl, hall, hb⟩ := hrel
    by_cases hlt : k < n
    · obtain ⟨b, o, rfl, hone⟩ := row3n HC.out HN.out k hlt
      have hkl9 : k < l.length := by have := HN.out; omega
      obtain ⟨za, zn, zc, hz⟩ := HG.out (l[k]'hkl9) (List.getElem_mem _)
      obtain ⟨G, hGe⟩ : ∃ G, G = l[k]'hkl9 := ⟨_, rfl⟩
      rw [← hGe] at hone hz
      have HGE : Hid (G = l[k]'hkl9) := hGe
      have hbad := fun W => bad_any G za zn zc hz W
      obtain ⟨gv, gls, glo, ghi⟩ := G
      dsimp only at hz hone hbad
      subst hz
      obtain ⟨g0, g1, g2⟩ := hone wr hb.out.below
      have hkl : (k : Int) < (n : Int) := by omega
      have HBD : Hid (∀ W, Calls Tryz.prog 19 #[.agg #[.slice za zn zc, .int .i64 glo, .int .i64 ghi]] W fun e w' => e = .returned (.bool (!fineG ⟨.slice za zn zc, gls, glo, ghi⟩)) ∧ GrW W w') := hbad
      have HTK : Hid (l.take (k + 1) = l.take k ++ [⟨.slice za zn zc, gls, glo, ghi⟩]) := by show _ = _; rw [List.take_succ_eq_append_getElem hkl9, HGE.out]
      clear hbad hGe hone
      generalize hfr : fineG ⟨.slice za zn zc, gls, glo, ghi⟩ = fr at *
      have hbt := HBD.out wr
      cases fr
      · have HF : Hid (∃ i : Int, (k : Int) = i ∧ ((i = -1 ∧ ∀ g ∈ l, fineG g = true) ∨ (∃ k : Nat, i = k ∧ ∃ h : k < l.length, fineG l[k] = false ∧ ∀ g ∈ l.take k, fineG g = true))) := ⟨k, rfl, Or.inr ⟨k, rfl, hkl9, by rw [← HGE.out]; exact hfr, hall.out⟩⟩
        have HW : Hid (∀ W, GrW wr W → GrW w W) := fun W hW => hb.out.trans hW
        simp only [Bool.not_false] at hbt
        clear HTK hall hfr HGE HBD
        go_wp2_with (go_at_fn 19; refine hbt.mono ?_; rintro e w2 ⟨rfl, hg2⟩)
        go_ret
        obtain ⟨i, hi, h9⟩ := HF.out
        exact ⟨⟨i, by rw [← hi]; rfl, h9⟩, HW.out _ hg2⟩
      · have HAL : Hid (∀ g ∈ l.take (k + 1), fineG g = true) := fun g hg => by
          rw [HTK.out] at hg
          rcases List.mem_append.1 hg with h9 | h9
          · exact hall.out g h9
          · simp at h9
            subst h9
            exact hfr
        have HW : Hid (∀ W, GrW wr W → GrW w W) := fun W hW => hb.out.trans hW
        simp only [Bool.not_true] at hbt
        clear HTK hall hfr HGE HBD
        go_wp2_with (go_at_fn 19; refine hbt.mono ?_; rintro e w2 ⟨rfl, hg2⟩)
        go_roundw
        case rel => exact ⟨k + 1, by omega, by go_num, HAL, HW.out _ hg2⟩
        case measure => simp [intOf]; omega
    · have HF : Hid (∃ i : Int, (-1 : Int) = i ∧ ((i = -1 ∧ ∀ g ∈ l, fineG g = true) ∨ (∃ k : Nat, i = k ∧ ∃ h : k < l.length, fineG l[k] = false ∧ ∀ g ∈ l.take k, fineG g = true))) := ⟨-1, rfl, Or.inl ⟨rfl, fun g hg => hall.out g (by rw [List.take_of_length_le (by have := HN.out; omega)]; exact hg)⟩⟩
      clear hall
      go_wp2
      go_ret
      obtain ⟨i, hi, h9⟩ := HF.out
      exact ⟨⟨i, by rw [← hi]; rfl, h9⟩, hb.out⟩

end Go.Proofs.YtjnjmpfldbkciaaGreat

/- slices.DeleteFunc of pieces. -/
namespace Go.Proofs.YtjnjmpfldbkciaaGreat
open Go.RowKit Go.Maps Go.Sort

theorem ownsRow_clear {base size n g : Nat} {e : TypeId} {v : Value} (hg : v.ownBlock = some g) : ∀ (vs : List Value) (o : Nat) (w : World) (xs : List Value), w.ownsRow base e size v n xs → ∃ ys, (w.setCells g o vs).ownsRow base e size v n ys ∧ ys.take o = xs.take o
  | [], _, _, xs, h => ⟨xs, h, rfl⟩
  | u :: r, o, w, xs, h => by
    obtain ⟨ys, h1, h2⟩ := ownsRow_clear hg r (o + 1) _ _ (ownsRow_set h hg (i := o) u)
    refine ⟨ys, h1, ?_⟩
    have h3 := congrArg (List.take o) h2
    rw [List.take_take, List.take_take, Nat.min_eq_left (by omega)] at h3
    rw [h3]
    apply List.ext_getElem?
    intro j
    by_cases hj : j < o
    · rw [List.getElem?_take_of_lt hj, List.getElem?_take_of_lt hj, List.getElem?_set_ne (by omega)]
    · rw [List.getElem?_take_eq_none (by omega), List.getElem?_take_eq_none (by omega)]
theorem kept_setCells (g : Nat) : ∀ (vs : List Value) (o : Nat) (w : World), Kept (fun k => k = g) w (w.setCells g o vs)
  | [], _, w => Kept.refl _ w
  | u :: r, o, w => (Kept.setCell (O := fun k => k = g) (p := ⟨g, o, none⟩) (Kept.refl _ w) (fun _ => rfl) u).trans (kept_setCells g r (o + 1) _) (fun _ _ h => h)
theorem ownsRow_prefix {w : World} {base size n g c m : Nat} {e : TypeId} {xs : List Value} (h : w.ownsRow base e size (.slice (some ⟨g, 0, none⟩) n c) n xs) (hm : m ≤ n) : w.ownsRow base e size (.slice (some ⟨g, 0, none⟩) m c) m (xs.take (m * size)) := by
  have hl := h.1
  rcases h.2 with ⟨e, _⟩ | ⟨g', cap, cur, e, hb, hh, h1, h2, h3, h4⟩
  · cases e
  · cases e
    have hmn : m * size ≤ n * size := Nat.mul_le_mul_right _ hm
    refine ⟨by rw [List.length_take]; omega, Or.inr ⟨g, c, cur, rfl, hb, hh, by omega, h2, h3, ?_⟩⟩
    rw [← h4, List.take_take, Nat.min_eq_left hmn]
theorem gnC_set (l : List Gn) (k : Nat) (hk : k < l.length) (x : Gn) : (((gnC l).set (k * 3) x.v).set (k * 3 + 1) (.int .i64 x.lo)).set (k * 3 + 2) (.int .i64 x.hi) = gnC (l.set k x) := by
  induction l generalizing k with
  | nil => simp at hk
  | cons y r ih =>
    cases k with
    | zero => rfl
    | succ k =>
      have h := ih k (by simpa using hk)
      have e : ∀ (z : Gn) (r : List Gn), gnC (z :: r) = [z.v, .int .i64 z.lo, .int .i64 z.hi] ++ gnC r := fun z r => by simp [gnC, gnV]
      rw [List.set_cons_succ, e, e, ← h]
      rw [show (k + 1) * 3 = k * 3 + 3 by omega]
      rfl
/-- The first i of R are the fine ones of the first j of l; behind j R is l. -/
structure DelSt (l R : List Gn) (i j : Nat) : Prop where
  len : R.length = l.length
  ij : i < j
  jl : j ≤ l.length
  first : R.take i = (l.take j).filter fineG
  rest : R.drop j = l.drop j
theorem DelSt.keep {l R : List Gn} {i j : Nat} (h : DelSt l R i j) (hj : j < l.length) (hf : fineG l[j] = true) : DelSt l (R.set i l[j]) (i + 1) (j + 1) := by
  have hlen := h.len
  have hij := h.ij
  refine ⟨by rw [List.length_set]; exact hlen, by omega, by omega, ?_, ?_⟩
  · rw [List.take_succ_eq_append_getElem (by rw [List.length_set]; omega), List.getElem_set_self, List.take_set_of_le (Nat.le_refl _), h.first, List.take_succ_eq_append_getElem hj, List.filter_append]
    simp [hf]
  · rw [List.drop_set_of_lt (by omega)]
    have h1 := congrArg (List.drop 1) h.rest
    rw [List.drop_drop, List.drop_drop] at h1
    exact h1
theorem DelSt.skip {l R : List Gn} {i j : Nat} (h : DelSt l R i j) (hj : j < l.length) (hf : fineG l[j] = false) : DelSt l R i (j + 1) := by
  have hij := h.ij
  refine ⟨h.len, by omega, by omega, ?_, ?_⟩
  · rw [h.first, List.take_succ_eq_append_getElem hj, List.filter_append]
    simp [hf]
  · have h1 := congrArg (List.drop 1) h.rest
    rw [List.drop_drop, List.drop_drop] at h1
    exact h1
theorem DelSt.at {l R : List Gn} {i j : Nat} (h : DelSt l R i j) (hj : j < l.length) : R[j]? = some l[j] := by
  have h1 : (R.drop j)[0]? = (l.drop j)[0]? := by rw [h.rest]
  simpa [hj] using h1

theorem zeroGn : ∀ w, (zeroValue 39).run Tryz.prog w = .ok (.agg #[.slice none 0 0, .int .i64 0, .int .i64 0]) w := fun _ => by kernel_rfl
theorem zeroCells3 (n : Nat) : ∀ u ∈ (Builtin.zeroCells #[.slice none 0 0, .int .i64 0, .int .i64 0] n).toList, u.oneCell' = true := fun u hu => by
  simp only [Builtin.zeroCells] at hu
  obtain ⟨i, hi, rfl⟩ := List.getElem_of_mem hu
  simp at hi ⊢
  have : i % 3 < 3 := Nat.mod_lt _ (by decide)
  rcases (by omega : i % 3 = 0 ∨ i % 3 = 1 ∨ i % 3 = 2) with e | e | e <;> simp [e, Value.oneCell']
theorem run_clear_gn (w : World) (ty : TypeId) (b o n c : Nat) (hn : 0 < n) (hc : ∀ j, j < n * 3 → (w.cell? ⟨b, o + j, none⟩).isSome = true) (hf : ∀ j, j < n * 3 → w.frozen? ⟨b, o + j, none⟩ = false) :
    ∃ vs : List Value, (Builtin.clear_ #[23] ty #[.slice (some ⟨b, o, none⟩) n c]).run Tryz.prog w = .ok (.tuple #[]) (w.setCells b o vs) := by
  refine ⟨(Builtin.zeroCells #[.slice none 0 0, .int .i64 0, .int .i64 0] n).toList, ?_⟩
  have hsz : (Builtin.zeroCells #[.slice none 0 0, .int .i64 0, .int .i64 0] n).toList.length = n * 3 := by simp [Builtin.zeroCells]
  have hst := run_storeCells_cells (P := Tryz.prog) b o (Builtin.zeroCells #[.slice none 0 0, .int .i64 0, .int .i64 0] n).toList 0 w (by rw [hsz]; simpa using hc) (by rw [hsz]; simpa using hf) (zeroCells3 n)
  simp only [Nat.add_zero] at hst
  obtain ⟨m, rfl⟩ : ∃ m, n = m + 1 := ⟨n - 1, by omega⟩
  have hzc : (Value.agg #[.slice none 0 0, .int .i64 0, .int .i64 0]).cells = #[.slice none 0 0, .int .i64 0, .int .i64 0] := rfl
  simp [Builtin.clear_, run_underlying Tryz.underlying23, hzc, hst]
theorem wpList_clear {P : Program} {T : TypeId} (w w' : World) {ops : Array Oper} {rest : List Oper} {o : Oper} {a : Act} {Q : Exit → Act → World → Prop} (hgd : o.guard = none) (x : Operand)
    (ho : o.op = .call { callee := .builtin .clear, args := #[x], argTypes := #[T] }) (v : Value) (hx : a.eval x = v) (hr : (Builtin.clear_ #[T] o.type #[v]).run P w = .ok (.tuple #[]) w') (hd : o.dst = none) (h : wpList P ops Q rest a w') :
    wpList P ops Q (o :: rest) a w := by
  refine wpList_plain hgd fun K hK => ?_
  unfold Oper.wp execOp
  simp only [ho, resolve, invoke, builtin, Sem.run_bind, Sem.run_pure, Result.andThen_ok, List.map_toArray, List.map_cons, List.map_nil, hx, hr]
  refine hK _ _ ?_
  rw [hd]
  exact h

end Go.Proofs.YtjnjmpfldbkciaaGreat
