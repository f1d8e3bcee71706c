/- The document's All. -/
import Derived.Test.YtkmclgbiedbfpaaDoorVm
import Derived.Test.YtkmclgbiedbfpaaDoorKl
import Derived.Deep.RegionLaw
import Derived.Deep.CutRange
namespace Go.Proofs.YtkmclgbiedbfpaaDoor
open Go.RowKit Go.Maps Go.Shelf
attribute [local go_sem] run_store_float

/-- where All stands: its reader, the samples that it has told -/
def AS (w : World) (V : Value) (bs : List UInt8) (W : World) (o : Option (List Bool)) (v : Value) (pre : List Sm) : Prop :=
  RdO W w.heap.size V bs o ∧ W.ownsRow w.heap.size 35 2 v pre.length (smCells pre) ∧ Below w.heap.size w W
theorem AS.get {w W W' : World} {V v : Value} {bs : List UInt8} {o o' : Option (List Bool)} {pre : List Sm} (h : AS w V bs W o v pre) (hk : Kept (fun k => k = w.heap.size) W W') (hr : RdO W' w.heap.size V bs o') : AS w V bs W' o' v pre := by
  obtain ⟨⟨p, bad, hh, -, -⟩, h2, h3⟩ := h
  refine ⟨hr, hk.ownsRow h2 (fun k hk' e => row_ne h2 hh (by decide) (by rw [← e]; exact hk')), h3.trans (hk.toBelow h3.size (fun i hi => by omega))⟩
theorem AS.cells {w W : World} {V v : Value} {bs : List UInt8} {o : Option (List Bool)} {pre : List Sm} (h : AS w V bs W o v pre) : W.cell? ⟨w.heap.size, 2, none⟩ = some (.bool o.isNone) ∧ W.frozen? ⟨w.heap.size, 2, none⟩ = false := by
  obtain ⟨⟨p, bad, hh, -, ho⟩, -, -⟩ := h
  refine ⟨?_, frozen_of_heap hh⟩
  rw [cell_of_heap hh, ho]
  cases bad <;> rfl
theorem AS.drew {w W : World} {V v : Value} {bs : List UInt8} {o : Option (List Bool)} {pre : List Sm} (h : AS w V bs W o v pre) : AS w V bs W.drew o v pre := ⟨h.1, h.2.1.drew, h.2.2.drew⟩
theorem AS.alloc {w W : World} {V v : Value} {bs : List UInt8} {o : Option (List Bool)} {pre : List Sm} (h : AS w V bs W o v pre) (ob : Obj) : AS w V bs (W.alloc ob) o v pre := by
  obtain ⟨⟨p, bad, hh, h1, h2⟩, h3, h4⟩ := h
  exact ⟨⟨p, bad, (Below.heap_alloc W ob _ (Array.getElem?_eq_some_iff.1 hh).1).trans hh, h1, h2⟩, h3.alloc _, h4.alloc h4.size _⟩
theorem AS.push {w W W' : World} {V v v' : Value} {bs : List UInt8} {o : Option (List Bool)} {pre : List Sm} {x : Sm} (h : AS w V bs W o v pre) (hg : W.grownBy W' v.ownBlock) (hr : W'.ownsRow w.heap.size 35 2 v' (pre.length + 1) (smCells pre ++ [.int .i64 (sg x.1), .float .f64 x.2.toNat])) : AS w V bs W' o v' (pre ++ [x]) := by
  obtain ⟨⟨p, bad, hh, h1, h2⟩, h3, h4⟩ := h
  refine ⟨⟨p, bad, (hg.block _ (Array.getElem?_eq_some_iff.1 hh).1 (row_ne h3 hh (by decide)).symm).trans hh, h1, h2⟩, ?_, h4.grown hg h4.size (fun j hj => (h3.lt j hj).1)⟩
  rw [smCells_append, List.length_append]
  exact hr
theorem StA.stop {bs : List UInt8} {n k : Nat} {pre : List Sm} {r : List Bool} {s : An} {L T D : Int} (h : StA bs n k pre (some r) s L T D) (hk : k < n) (h0 : k ≠ 0) {s1 : An} (hn : NextR s r none s1) (s' : An) (L' T' D' : Int) : StA bs n (k + 1) pre none s' L' T' D' := by
  obtain ⟨h1, -⟩ := h
  have e : n - k = (n - (k + 1)) + 1 := by omega
  rw [e, decL, decide_eq_false h0] at h1
  unfold NextR at hn
  rw [hn] at h1
  show decR bs = pre
  rw [h1]
  simp
theorem AS.spoil {w W : World} {V v : Value} {bs : List UInt8} {o : Option (List Bool)} {pre : List Sm} (h : AS w V bs W o v pre) : AS w V bs (W.setCell ⟨w.heap.size, 2, none⟩ (.bool true)) none v pre := by
  obtain ⟨⟨p, bad, hh, h1, h2⟩, h3, h4⟩ := id h
  exact h.get ((Kept.refl (fun k => k = w.heap.size) W).setCell (p := ⟨w.heap.size, 2, none⟩) (fun _ => rfl) _) ⟨p, true, heap_setCell_same hh _, h1, rfl⟩
theorem AS.last {w W : World} {V : Value} {bs : List UInt8} {o : Option (List Bool)} {pre pre' : List Sm} {x : Sm} {g lc : Nat} (h : AS w V bs W o (.slice (some ⟨g, 0, none⟩) pre.length lc) pre) (he : pre = pre' ++ [x]) : W.cell? ⟨g, pre'.length * 2, none⟩ = some (.int .i64 (sg x.1)) ∧ W.cell? ⟨g, pre'.length * 2 + 1, none⟩ = some (.float .f64 x.2.toNat) := by
  have hl : pre'.length < pre.length := by rw [he]; simp
  have hx : pre[pre'.length] = x := by subst he; simp
  have hc := smCells_at pre pre'.length hl
  rw [hx] at hc
  have h1 := h.2.1.cells (g := g) rfl _ _ hc.1
  have h2 := h.2.1.cells (g := g) rfl _ _ hc.2
  rw [Addr.add_lit, Nat.zero_add] at h1 h2
  exact ⟨h1, h2⟩
theorem shl_lt {g n t : Nat} (h : g < 2 ^ n) (hn : n + t ≤ 64) : g <<< t < 18446744073709551616 := by
  rw [Nat.shiftLeft_eq]
  have h1 : g * 2 ^ t < 2 ^ n * 2 ^ t := Nat.mul_lt_mul_of_pos_right h (Nat.pow_pos (by decide))
  rw [← Nat.pow_add] at h1
  have h2 : 2 ^ (n + t) ≤ 2 ^ 64 := Nat.pow_le_pow_right (by decide) hn
  have h3 : (2 : Nat) ^ 64 = 18446744073709551616 := rfl
  omega
theorem shlv1 (g t : Nat) (h : g <<< t < 18446744073709551616) : (g : Int) * 2 ^ t % 18446744073709551616 = ((g <<< t : Nat) : Int) := by
  rw [Nat.shiftLeft_eq] at h ⊢
  have h3 : (2 : Int) ^ t = ((2 ^ t : Nat) : Int) := by simp
  rw [h3, ← Int.natCast_mul]
  omega
theorem shlv2 (g t : Nat) (h : g <<< t < 18446744073709551616) : IntKind.u64.wrap ((g : Int) * 2 ^ t) = ((g <<< t : Nat) : Int) := by
  rw [IntKind.wrap_u64]
  exact shlv1 g t h
theorem gr_some {n : Nat} {o : Option (List Bool)} {r : List Bool} (h : gr n o = some r) : ∃ r1, o = some r1 := by
  cases o with
  | none => cases h
  | some r1 => exact ⟨r1, rfl⟩
/-- the times, where there is a change -/
theorem time_of {s : An} (hG : Good s) {r r1 : List Bool} (h : dr (some r) = some r1) {D : Int} (hD : D = sg (UInt64.ofNat s.d)) :
    IntKind.i64.wrap (D + zd (some r)) = sg (UInt64.ofNat (timed s (cz r)).d) ∧ IntKind.i64.wrap (sg (UInt64.ofNat s.t) + sg (UInt64.ofNat (timed s (cz r)).d)) = sg (UInt64.ofNat (timed s (cz r)).t) := by
  have hz : zd (some r) = sg (UInt64.ofNat (cz r)) := by
    rcases dr_cases r with ⟨h1, _⟩ | ⟨r2, _, h2⟩
    · rw [h] at h1; cases h1
    · exact (zd_spec (some r)).2.2 r _ _ rfl h2
  have hd := hG.d
  have ht := hG.t
  constructor
  · rw [hz, hD]
    apply wrap_add_sg
    show (UInt64.ofNat ((s.d + cz r) % 18446744073709551616)).toNat = _
    rw [UInt64.toNat_ofNat', UInt64.toNat_ofNat', UInt64.toNat_ofNat']
    omega
  · apply wrap_add_sg
    show (UInt64.ofNat ((s.t + (s.d + cz r) % 18446744073709551616) % 18446744073709551616)).toNat = (_ + (UInt64.ofNat ((s.d + cz r) % 18446744073709551616)).toNat) % _
    rw [UInt64.toNat_ofNat', UInt64.toNat_ofNat', UInt64.toNat_ofNat']
    omega
theorem step_append_smp (w : World) {ops : Array Oper} {o : Oper} {a : Act} {K : Act → World → Prop} {Q : Exit → Act → World → Prop} {E : Prop} (hgd : o.guard = none) (s x : Operand)
    (ho : o.op = .call { callee := .builtin .append, args := #[s, x], argTypes := #[22, 22] }) (base : Nat) (v : Value) (n : Nat) (xs : List Value) (hs : a.eval s = v) (hown : w.ownsRow base 35 2 v n xs)
    (g : Nat) (A : Int) (B : Nat) (hx : a.eval x = .slice (some ⟨g, 0, none⟩) 1 1) (hb : w.heap[g]? = some (.cells #[.int .i64 A, .float .f64 B] 35)) (hl : n ≤ 1000000) (hbase : base ≤ w.heap.size)
    (h : ∀ c d w', w'.ownsRow base 35 2 (.slice c (n + 1) d) (n + 1) (xs ++ [.int .i64 A, .float .f64 B]) → w.grownBy w' v.ownBlock → K (a.put o.dst (.slice c (n + 1) d)) w') :
    if Region.wanted o (yielded ops a.tmps) = true then Oper.wp Tryd.prog o a w K Q else E := by
  have hw : Region.wanted o (yielded ops a.tmps) = true := by simp [Region.wanted, hgd]
  rw [if_pos hw]
  obtain ⟨i0, hi0, hz0, hz1, hz2⟩ := info_parts infoSm
  obtain ⟨v', w', hr, h2, h3, _, _⟩ := run_append_own_at (P := Tryd.prog) w base 22 o.type 35 i0 _ 2 16 Tryd.underlying22 hi0 hz0 hz1 hz2 rfl (by decide) v n xs hown ⟨g, 0, none⟩ 1 1 [.int .i64 A, .float .f64 B] rfl (World.news_of_block (cs := #[.int .i64 A, .float .f64 B]) (t := 35) (fr := (0, 0)) hb) (by simp [Value.oneCell']) (by unfold maxLen; omega) (by omega) hbase
  obtain ⟨c, d, rfl⟩ := slice_of_row h2
  unfold Oper.wp execOp
  simp only [ho, resolve, invoke, builtin, Sem.run_bind, Sem.run_pure, Result.andThen_ok, List.map_toArray, List.map_cons, List.map_nil, hs, hx, hr]
  exact h c d w' h2 h3

set_option maxRecDepth 100000 in
set_option maxHeartbeats 2000000 in
theorem rall_any (V : Value) (bs : List UInt8) (w : World) (h : BytesAt w V bs) (hl : bs.length ≤ 100000) :
    Calls Tryd.prog 25 #[V] w fun e w' => ∃ v', e = .returned v' ∧ w'.ownsRow w.heap.size 35 2 v' (decR bs).length (smCells (decR bs)) ∧ Below w.heap.size w w' := by
  have HG : Hid (∀ W o' v pre (n : Nat) (N : Int), AS w V bs W o' v pre → N = (n : Int) → n ≤ 64 → Calls Tryd.prog 40 #[.pointer (some ⟨w.heap.size, 0, none⟩), .int .i64 N] W fun e w' => e = .returned (.int .u64 (gv n o')) ∧ AS w V bs w' (gr n o') v pre) := fun W o' v pre n N h1 h2 h3 => by
    subst h2
    exact (rget_any w.heap.size V bs o' n W h1.1 (fun W' hk => h.below (h1.2.2.trans (hk.toBelow h1.2.2.size (fun i hi => by omega)))) h3 hl).mono (fun e w' h9 => ⟨h9.1, h1.get h9.2.2 h9.2.1⟩)
  have HD : Hid (∀ W o' v pre, AS w V bs W o' v pre → Calls Tryd.prog 42 #[.pointer (some ⟨w.heap.size, 0, none⟩)] W fun e w' => e = .returned (.int .i64 (zd o')) ∧ AS w V bs w' (dr o') v pre) := fun W o' v pre h1 =>
    (rdodR_any w.heap.size V bs o' W h1.1 (fun W' hk => h.below (h1.2.2.trans (hk.toBelow h1.2.2.size (fun i hi => by omega)))) hl).mono (fun e w' h9 => ⟨h9.1, h1.get h9.2.2 h9.2.1⟩)
  obtain ⟨a, c, rfl, -, -, -⟩ := id h
  obtain ⟨n, hn⟩ : ∃ n, n = gv 16 (some (ub bs)) := ⟨_, rfl⟩
  have hn16 : n < 65536 := by rw [hn]; exact gv_lt 16 _
  have HB : Hid (StA bs n 0 [] (gr 16 (some (ub bs))) An.zero (-1) (-1) 0) := by rw [hn]; exact StA.begin bs
  have HA0 : Hid (AS w (.slice a bs.length c) bs (w.alloc (.cells #[.slice a bs.length c, .int .i64 0, .bool false] 80)) (some (ub bs)) (.slice none 0 0) []) := ⟨⟨0, false, heap_alloc_new w _, Nat.zero_le _, rfl⟩, ⟨rfl, Or.inl ⟨rfl, rfl⟩⟩, (Below.refl _ _).alloc (Nat.le_refl _) _⟩
  have hg0 := HG.out _ _ _ _ 16 16 HA0.out rfl (by decide)
  rw [← hn] at hg0
  clear h hn HA0
  go_enter Tryd.func25, Tryd.ntmps25
  go_wp2_with (go_at_call 40; refine hg0.mono ?_; clear hg0; rintro e w1 ⟨rfl, hw1⟩; have HA1 : Hid (AS w (.slice a bs.length c) bs w1 (gr 16 (some (ub bs))) (.slice none 0 0) []) := hw1; clear hw1)
  go_loopw [5, 6, 7, 8, 9] (fun lv dv ldv tlv i wr => ∃ (k : Nat) (pre : List Sm) (o : Option (List Bool)) (s : An) (L T D : Int), k ≤ n ∧ pre.length ≤ k ∧ i = .int .i64 k ∧ dv = .int .i64 D ∧ ldv = .int .i64 L ∧ tlv = .int .i64 T ∧ Hid (StA bs n k pre o s L T D ∧ AS w (.slice a bs.length c) bs wr o lv pre)) (fun _ _ _ _ i _ => n - (intOf i).toNat)
  case atStart => exact ⟨0, [], _, _, -1, -1, 0, Nat.zero_le _, Nat.le_refl _, rfl, rfl, rfl, rfl, HB.out, HA1.out⟩
  case round =>
    obtain ⟨k, pre, o, s, L, T, D, hk, hpl, rfl, rfl, rfl, rfl, hI⟩ := hrel
    clear HB HA1
    obtain ⟨b2, f2⟩ := hI.out.2.cells
    by_cases hko : k < n ∧ o ≠ none
    · obtain ⟨hkn, hon⟩ := hko
      obtain ⟨r, rfl⟩ : ∃ r, o = some r := by
        cases o with
        | none => exact absurd rfl hon
        | some r => exact ⟨r, rfl⟩
      obtain ⟨la, lc, rfl⟩ := slice_of_row hI.out.2.2.1
      have hki : (k : Int) < (n : Int) := by omega
      have HSTA : Hid (StA bs n k pre (some r) s L T D) := hI.out.1
      have HAS : Hid (AS w (.slice a bs.length c) bs wr (some r) (.slice la pre.length lc) pre) := hI.out.2
      have HPL : Hid (pre.length ≤ k) := hpl
      have hpl2 : pre.length ≤ 70000 := by omega
      clear hI hon f2 hpl
      obtain ⟨i0, hi0, hz0, hz1, hz2⟩ := info_parts infoSm
      by_cases h0 : k = 0
      · subst h0
        have hf := HSTA.out.first hkn
        have hg1 := HG.out wr _ _ _ 64 64 HAS.out rfl (by decide)
        have hwt : IntKind.i64.wrap (gv 64 (some r) : Int) = sg (UInt64.ofNat (gv 64 (some r))) := sg_word _ (gv_lt 64 _)
        have hwt2 : wrap64 (gv 64 (some r) : Int) = sg (UInt64.ofNat (gv 64 (some r))) := by rw [← IntWalk.i64_left]; exact hwt
        have hfr : ∀ W : World, (callFunc 41 #[.int .u64 (gv 64 (gr 64 (some r)) : Int)]).run Tryd.prog W = .ok (.value (.float .f64 (gv 64 (gr 64 (some r))))) W := fun W => frombits_run (gv 64 (gr 64 (some r)) : Nat) W
        have HVN : Hid ((UInt64.ofNat (gv 64 (gr 64 (some r)))).toNat = gv 64 (gr 64 (some r))) := ofNat_nat (gv_lt 64 _)
        have HG2 : Hid (∀ W, AS w (.slice a bs.length c) bs W (gr 64 (some r)) (.slice la pre.length lc) pre → Calls Tryd.prog 40 #[.pointer (some ⟨w.heap.size, 0, none⟩), .int .i64 64] W fun e w' => e = .returned (.int .u64 (gv 64 (gr 64 (some r)))) ∧ AS w (.slice a bs.length c) bs w' (gr 64 (gr 64 (some r))) (.slice la pre.length lc) pre) := fun W hW => HG.out W _ _ _ 64 64 hW rfl (by decide)
        clear HG HD HSTA HAS
        generalize gv 64 (gr 64 (some r)) = vv at *
        generalize gv 64 (some r) = tt at *
        have hsi := sg_in (UInt64.ofNat tt)
        cases ho2 : gr 64 (gr 64 (some r)) with
        | none =>
          rw [ho2] at hf HG2
          have HF : Hid (StA bs n 1 pre none _ L T D) := hf
          clear hf ho2
          go_wp2_with (first
            | (go_at_call 40; refine hg1.mono ?_; clear hg1; rintro e w2 ⟨rfl, hw2⟩; have hg2 := HG2.out w2 hw2; clear HG2 hw2)
            | (go_at_call 40; refine hg2.mono ?_; clear hg2; rintro e w3 ⟨rfl, hw3⟩; have b3 := hw3.cells.1; have HW3 : Hid (AS w (.slice a bs.length c) bs w3 none (.slice la pre.length lc) pre) := hw3; clear hw3))
          go_roundw
          case rel => exact ⟨1, pre, none, _, L, T, D, by omega, by have := HPL.out; omega, by go_num, rfl, rfl, rfl, HF.out, HW3.out⟩
          case measure => simp [intOf]; omega
        | some r2 =>
          rw [ho2] at hf HG2
          have HF : Hid (StA bs n 1 (pre ++ [(UInt64.ofNat tt, UInt64.ofNat vv)]) (some r2) _ L T D) := hf
          clear hf ho2
          go_wp2_with (first
            | (go_at_call 40; refine hg1.mono ?_; clear hg1; rintro e w2 ⟨rfl, hw2⟩; have hg2 := HG2.out w2 hw2; clear HG2 hw2)
            | (go_at_call 40; refine hg2.mono ?_; clear hg2; rintro e w3 ⟨rfl, hw3⟩; have b3 := hw3.cells.1; have HW3 : Hid (AS w (.slice a bs.length c) bs w3 (some r2) (.slice la pre.length lc) pre) := hw3; have hs3 := hw3.2.2.size; clear hw3)
            | (at_builtin; refine wpList_append_own_at _ rfl _ _ 22 rfl w.heap.size 35 i0 _ 2 16 Tryd.underlying22 hi0 hz0 hz1 hz2 rfl (by decide) (.slice la pre.length lc) pre.length (smCells pre) rfl (World.ownsRow.alloc HW3.out.2.1 _) ⟨w3.heap.size, 0, none⟩ 1 1 [.int .i64 (sg (UInt64.ofNat tt)), .float .f64 vv] rfl rfl (World.news_of_block (cs := #[.int .i64 (sg (UInt64.ofNat tt)), .float .f64 vv]) (t := 35) (fr := (0, 0)) (heap_alloc_new w3 _)) (by simp [Value.oneCell']) (by unfold maxLen; omega) (by omega) (Nat.le_trans hs3 (by simp)) ?_; intro v4 w4 hr4 hg4 hnil4 hloc4; have HW4 : Hid (AS w (.slice a bs.length c) bs w4 (some r2) v4 (pre ++ [(UInt64.ofNat tt, UInt64.ofNat vv)])) := (HW3.out.alloc _).push hg4 (by rw [show (UInt64.ofNat vv).toNat = vv from HVN.out]; exact hr4); clear hr4 hg4 hnil4 hloc4))
          go_roundw
          case rel => exact ⟨1, _, some r2, _, L, T, D, by omega, by have := HPL.out; rw [List.length_append, List.length_cons, List.length_nil]; omega, by go_num, rfl, rfl, rfl, HF.out, HW4.out⟩
          case measure => simp [intOf]; omega
      · obtain ⟨-, hDe, hW, hG, hlast, -⟩ := id HSTA.out
        obtain ⟨pre', hpre⟩ := hlast h0
        obtain ⟨m, hm⟩ : ∃ m, m = pre'.length := ⟨_, rfl⟩
        have hpl1 : pre.length = m + 1 := by rw [hpre, hm]; simp
        obtain ⟨g, hg⟩ := row_some HAS.out.2.1 (by omega)
        subst hg
        have hsvn : (UInt64.ofNat s.v).toNat = s.v := ofNat_nat hG.v
        have HLAST : Hid (∀ W o', AS w (.slice a bs.length c) bs W o' (.slice (some ⟨g, 0, none⟩) (m + 1) lc) pre → W.cell? ⟨g, m * 2, none⟩ = some (.int .i64 (sg (UInt64.ofNat s.t))) ∧ W.cell? ⟨g, m * 2 + 1, none⟩ = some (.float .f64 s.v)) := fun W o' hA => by
          rw [← hpl1] at hA
          have h9 := hA.last hpre
          dsimp only at h9
          rw [hsvn, ← hm] at h9
          exact h9
        rw [hpl1] at HAS
        rw [hpl1]
        have hml : m + 1 ≤ k := by have := HPL.out; omega
        have hk0 : ((k : Int) == 0) = false := by simpa using h0
        obtain ⟨o1, ho1⟩ : ∃ o1, o1 = dr (some r) := ⟨_, rfl⟩
        have hzr := (zd_spec (some r)).1
        have HTM : Hid (∀ r1, o1 = some r1 → IntKind.i64.wrap (D + zd (some r)) = sg (UInt64.ofNat (timed s (cz r)).d) ∧ IntKind.i64.wrap (sg (UInt64.ofNat s.t) + sg (UInt64.ofNat (timed s (cz r)).d)) = sg (UInt64.ofNat (timed s (cz r)).t)) := fun r1 h9 => time_of hG (ho1.symm.trans h9) hDe
        have HO1 : Hid (o1 = dr (some r)) := ho1
        have HGD : Hid (Good s) := hG
        have hDi : -9223372036854775808 ≤ D ∧ D ≤ 9223372036854775807 := by rw [hDe]; exact sg_in _
        have hsv := hG.v
        have hsl := hG.lead
        have hsw := hG.win
        have hsti := sg_in (UInt64.ofNat s.t)
        have HDC : Hid (∀ W, AS w (.slice a bs.length c) bs W (some r) (.slice (some ⟨g, 0, none⟩) (m + 1) lc) pre → Calls Tryd.prog 42 #[.pointer (some ⟨w.heap.size, 0, none⟩)] W fun e w' => e = .returned (.int .i64 (zd (some r))) ∧ AS w (.slice a bs.length c) bs w' o1 (.slice (some ⟨g, 0, none⟩) (m + 1) lc) pre) := fun W hW9 => by
          rw [ho1]
          have h9 := hW9
          rw [← hpl1] at h9
          have := HD.out W _ _ _ h9
          rw [hpl1] at this
          exact this
        have HGC : Hid (∀ W o' (n : Nat) (N : Int), AS w (.slice a bs.length c) bs W o' (.slice (some ⟨g, 0, none⟩) (m + 1) lc) pre → N = (n : Int) → n ≤ 64 → Calls Tryd.prog 40 #[.pointer (some ⟨w.heap.size, 0, none⟩), .int .i64 N] W fun e w' => e = .returned (.int .u64 (gv n o')) ∧ AS w (.slice a bs.length c) bs w' (gr n o') (.slice (some ⟨g, 0, none⟩) (m + 1) lc) pre) := fun W o' n N h1 h2 h3 => by
          rw [← hpl1] at h1
          have := HG.out W o' _ _ n N h1 h2 h3
          rw [hpl1] at this
          exact this
        have HSVN : Hid ((UInt64.ofNat s.v).toNat = s.v) := hsvn
        clear HG HD hDe hlast hG ho1 hsvn hpre hm
        obtain ⟨z, hz⟩ : ∃ z, z = zd (some r) := ⟨_, rfl⟩
        rw [← hz] at hzr HTM HDC
        obtain ⟨D2, hD2⟩ : ∃ D2, D2 = IntKind.i64.wrap (D + z) := ⟨_, rfl⟩
        have hD2a : IntKind.i64.wrap (D + z) = D2 := hD2.symm
        have hD2b : wrap64 (D + z) = D2 := by rw [← IntWalk.i64_left]; exact hD2a
        have hD2i : -9223372036854775808 ≤ D2 ∧ D2 ≤ 9223372036854775807 := by rw [← hD2b]; unfold wrap64; omega
        rw [hD2a] at HTM
        obtain ⟨A, hA⟩ : ∃ A, A = sg (UInt64.ofNat s.t) := ⟨_, rfl⟩
        rw [← hA] at HTM HLAST hsti
        obtain ⟨T2, hT2⟩ : ∃ T2, T2 = IntKind.i64.wrap (A + D2) := ⟨_, rfl⟩
        have hT2a : IntKind.i64.wrap (A + D2) = T2 := hT2.symm
        have hT2b : wrap64 (A + D2) = T2 := by rw [← IntWalk.i64_left]; exact hT2a
        have hfb := fun W => floatbits_run s.v W
        clear hz hD2 hA hT2 HPL
        obtain ⟨o2, ho2⟩ : ∃ o2, o2 = gr 1 o1 := ⟨_, rfl⟩
        have HO2 : Hid (o2 = gr 1 o1) := ho2
        clear ho2
        go_upto_if 57 with (first
          | (go_at_call 42; refine (HDC.out _ HAS.out).mono ?_; clear HAS HDC; rintro e w2 ⟨rfl, hw2⟩; have HW2 : Hid (AS w (.slice a bs.length c) bs w2 o1 (.slice (some ⟨g, 0, none⟩) (m + 1) lc) pre) := hw2; clear hw2)
          | (go_at_call 40; refine (HGC.out _ _ 1 _ HW2.out rfl (by omega)).mono ?_; clear HW2; rintro e w3 ⟨rfl, hw3⟩; rw [← HO2.out] at hw3; have HW3 : Hid (AS w (.slice a bs.length c) bs w3 o2 (.slice (some ⟨g, 0, none⟩) (m + 1) lc) pre) := hw3; clear hw3))
        go_cut [7, 8, 12] from 20 to 112 (fun lv tv xv wc => ∃ (o' : Option (List Bool)) (s' : An) (L' T' : Int) (x : Nat), lv = .int .i64 L' ∧ tv = .int .i64 T' ∧ xv = .int .u64 (x : Int) ∧ Hid (x < 18446744073709551616 ∧ AS w (.slice a bs.length c) bs wc o' (.slice (some ⟨g, 0, none⟩) (m + 1) lc) pre ∧ StA bs n (k + 1) (match o' with | none => pre | some _ => pre ++ [(UInt64.ofNat s'.t, UInt64.ofNat s'.v)]) o' s' L' T' D2 ∧ ∀ r', o' = some r' → T2 = sg (UInt64.ofNat s'.t) ∧ s'.v = s.v ^^^ x))
        case first =>
          by_cases e1 : gv 1 o1 = 1
          · have e1b : ((gv 1 o1 : Int) == 1) = true := by rw [e1]; rfl
            by_cases e2 : gv 1 o2 = 1
            · obtain ⟨o3, ho3⟩ : ∃ o3, o3 = gr 1 o2 := ⟨_, rfl⟩
              obtain ⟨o4, ho4⟩ : ∃ o4, o4 = gr 5 o3 := ⟨_, rfl⟩
              obtain ⟨o5, ho5⟩ : ∃ o5, o5 = gr 6 o4 := ⟨_, rfl⟩
              have HO3 : Hid (o3 = gr 1 o2) := ho3
              have HO4 : Hid (o4 = gr 5 o3) := ho4
              have HO5 : Hid (o5 = gr 6 o4) := ho5
              have hld := gv_lt 5 o3
              have hz6 := gv_lt 6 o4
              have p5 : (2 : Nat) ^ 5 = 32 := rfl
              have p6 : (2 : Nat) ^ 6 = 64 := rfl
              rw [p5] at hld
              rw [p6] at hz6
              have q1 : gv 1 (dr (some r)) = 1 := by rw [← HO1.out]; exact e1
              have q2 : gv 1 (gr 1 (dr (some r))) = 1 := by rw [← HO1.out, ← HO2.out]; exact e2
              have q3 : o3 = gr 1 (gr 1 (dr (some r))) := by rw [← HO1.out, ← HO2.out]; exact ho3
              by_cases hwd : gv 5 o3 + gv 6 o4 ≤ 63
              · have HN : Hid (NextR s r (gr (gv 6 o4 + 1) o5) { timed s (cz r) with lead := gv 5 o3, size := gv 6 o4 + 1, v := s.v ^^^ (gv (gv 6 o4 + 1) o5 <<< (63 - gv 5 o3 - gv 6 o4)) }) := next_new q1 q2 o3 o4 o5 q3 ho4 ho5 hwd
                clear ho3 ho4 ho5 p5 p6 q1 q2 q3
                obtain ⟨ld, hldd⟩ : ∃ ld, ld = gv 5 o3 := ⟨_, rfl⟩
                obtain ⟨z6, hz6d⟩ : ∃ z6, z6 = gv 6 o4 := ⟨_, rfl⟩
                rw [← hldd, ← hz6d] at HN hwd
                rw [← hldd] at hld
                rw [← hz6d] at hz6
                have HLD : Hid (gv 5 o3 = ld) := hldd.symm
                have HZ6 : Hid (gv 6 o4 = z6) := hz6d.symm
                obtain ⟨tl, htl⟩ : ∃ tl, tl = 63 - ld - z6 := ⟨_, rfl⟩
                rw [← htl] at HN
                have htli : (63 : Int) - (ld : Int) - (z6 : Int) = (tl : Int) := by omega
                have htl64 : (tl : Int) < 64 := by omega
                have htl0 : (0 : Int) ≤ (tl : Int) := by omega
                have hld0 : (0 : Int) ≤ (ld : Int) := by omega
                have hgl := gv_lt (z6 + 1) o5
                obtain ⟨gx, hgx⟩ : ∃ gx, gx = gv (z6 + 1) o5 := ⟨_, rfl⟩
                rw [← hgx] at HN hgl
                have HGX : Hid (gv (z6 + 1) o5 = gx) := hgx.symm
                have hsl2 := shl_lt (n := z6 + 1) (t := tl) hgl (by omega)
                have hsh1 := shlv1 gx tl hsl2
                have hsh2 := shlv2 gx tl hsl2
                have HGS : Hid (Good { timed s (cz r) with lead := ld, size := z6 + 1, v := s.v ^^^ (gx <<< tl) }) := ⟨(HGD.out.timed (cz r)).t, (HGD.out.timed (cz r)).d, xor_lt hsv hsl2, by show ld ≤ 31; omega, by show ld + (z6 + 1) ≤ 64; omega⟩
                have HWS : Hid (WinR { timed s (cz r) with lead := ld, size := z6 + 1, v := s.v ^^^ (gx <<< tl) } (ld : Int) (tl : Int)) := Or.inr ⟨Nat.succ_pos _, rfl, by show (tl : Int) = ((64 - ld - (z6 + 1) : Nat) : Int); omega⟩
                have HTL : Hid (tl = 63 - ld - z6) := htl
                clear hldd hz6d htl hgx hgl
                cases hv : gr (z6 + 1) o5 with
                | none =>
                  rw [hv] at HN
                  have HF : Hid (StA bs n (k + 1) pre none s (ld : Int) (tl : Int) D2) := HSTA.out.stop hkn h0 HN.out s _ _ D2
                  have HV : Hid (gr (z6 + 1) o5 = none) := hv
                  clear HSTA HN hv
                  go_wp2_with (first
                    | (go_at_call 40; refine (HGC.out _ _ 1 _ HW3.out rfl (by omega)).mono ?_; clear HW3; rintro e w4 ⟨rfl, hw4⟩; rw [← HO3.out] at hw4; have HW4 : Hid (AS w (.slice a bs.length c) bs w4 o3 (.slice (some ⟨g, 0, none⟩) (m + 1) lc) pre) := hw4; clear hw4)
                    | (go_at_call 40; refine (HGC.out _ _ 5 _ HW4.out rfl (by omega)).mono ?_; clear HW4; rintro e w5 ⟨rfl, hw5⟩; rw [HLD.out]; rw [← HO4.out] at hw5; have HW5 : Hid (AS w (.slice a bs.length c) bs w5 o4 (.slice (some ⟨g, 0, none⟩) (m + 1) lc) pre) := hw5; clear hw5)
                    | (go_at_call 40; refine (HGC.out _ _ 6 _ HW5.out rfl (by omega)).mono ?_; clear HW5; rintro e w6 ⟨rfl, hw6⟩; rw [HZ6.out]; rw [← HO5.out] at hw6; have HW6 : Hid (AS w (.slice a bs.length c) bs w6 o5 (.slice (some ⟨g, 0, none⟩) (m + 1) lc) pre) := hw6; clear hw6)
                    | (go_at_call 40; refine (HGC.out _ _ (z6 + 1) _ HW6.out (by omega) (by omega)).mono ?_; clear HW6; rintro e w7 ⟨rfl, hw7⟩; rw [HGX.out]; rw [HV.out] at hw7; have b3 := hw7.cells.1; have HW7 : Hid (AS w (.slice a bs.length c) bs w7 none (.slice (some ⟨g, 0, none⟩) (m + 1) lc) pre) := hw7; clear hw7))
                  go_meet
                  case rel => exact ⟨none, s, _, _, gx <<< tl, rfl, rfl, rfl, hsl2, HW7.out, HF.out, fun r' e => by cases e⟩
                | some r' =>
                  rw [hv] at HN
                  have HV : Hid (gr (z6 + 1) o5 = some r') := hv
                  obtain ⟨r5, hr5⟩ := gr_some hv
                  rw [HO5.out] at hr5
                  obtain ⟨r4, hr4⟩ := gr_some hr5
                  rw [HO4.out] at hr4
                  obtain ⟨r3, hr3⟩ := gr_some hr4
                  rw [HO3.out] at hr3
                  obtain ⟨r2, hr2⟩ := gr_some hr3
                  rw [HO2.out] at hr2
                  obtain ⟨r1, hr1⟩ := gr_some hr2
                  obtain ⟨ht1, ht2⟩ := HTM.out r1 hr1
                  have hT2v : T2 = sg (UInt64.ofNat (timed s (cz r)).t) := by rw [← hT2a, ht1]; exact ht2
                  have HT2 : Hid (T2 = sg (UInt64.ofNat (timed s (cz r)).t)) := hT2v
                  have HF : Hid (StA bs n (k + 1) (pre ++ [(UInt64.ofNat (timed s (cz r)).t, UInt64.ofNat (s.v ^^^ (gx <<< tl)))]) (some r') { timed s (cz r) with lead := ld, size := z6 + 1, v := s.v ^^^ (gx <<< tl) } (ld : Int) (tl : Int) D2) := HSTA.out.more hkn h0 HN.out HGS.out HWS.out (fun _ _ => ht1)
                  clear HSTA HN hv hr1 hr2 hr3 hr4 hr5 ht1 ht2 hT2v
                  go_wp2_with (first
                    | (go_at_call 40; refine (HGC.out _ _ 1 _ HW3.out rfl (by omega)).mono ?_; clear HW3; rintro e w4 ⟨rfl, hw4⟩; rw [← HO3.out] at hw4; have HW4 : Hid (AS w (.slice a bs.length c) bs w4 o3 (.slice (some ⟨g, 0, none⟩) (m + 1) lc) pre) := hw4; clear hw4)
                    | (go_at_call 40; refine (HGC.out _ _ 5 _ HW4.out rfl (by omega)).mono ?_; clear HW4; rintro e w5 ⟨rfl, hw5⟩; rw [HLD.out]; rw [← HO4.out] at hw5; have HW5 : Hid (AS w (.slice a bs.length c) bs w5 o4 (.slice (some ⟨g, 0, none⟩) (m + 1) lc) pre) := hw5; clear hw5)
                    | (go_at_call 40; refine (HGC.out _ _ 6 _ HW5.out rfl (by omega)).mono ?_; clear HW5; rintro e w6 ⟨rfl, hw6⟩; rw [HZ6.out]; rw [← HO5.out] at hw6; have HW6 : Hid (AS w (.slice a bs.length c) bs w6 o5 (.slice (some ⟨g, 0, none⟩) (m + 1) lc) pre) := hw6; clear hw6)
                    | (go_at_call 40; refine (HGC.out _ _ (z6 + 1) _ HW6.out (by omega) (by omega)).mono ?_; clear HW6; rintro e w7 ⟨rfl, hw7⟩; rw [HGX.out]; rw [HV.out] at hw7; have b3 := hw7.cells.1; have HW7 : Hid (AS w (.slice a bs.length c) bs w7 (some r') (.slice (some ⟨g, 0, none⟩) (m + 1) lc) pre) := hw7; clear hw7))
                  go_meet
                  case rel => exact ⟨some r', { timed s (cz r) with lead := ld, size := z6 + 1, v := s.v ^^^ (gx <<< tl) }, _, _, gx <<< tl, rfl, rfl, rfl, hsl2, HW7.out, HF.out, fun _ _ => ⟨HT2.out, rfl⟩⟩
              · have HN : Hid (NextR s r none s) := next_wide q1 q2 o3 o4 q3 ho4 (by omega) s
                have HF : Hid (StA bs n (k + 1) pre none s (gv 5 o3 : Int) ((63 : Int) - (gv 5 o3 : Int) - (gv 6 o4 : Int)) D2) := HSTA.out.stop hkn h0 HN.out s _ _ D2
                have hld0 : (0 : Int) ≤ (gv 5 o3 : Int) := by omega
                have htn : (63 : Int) - (gv 5 o3 : Int) - (gv 6 o4 : Int) < 0 := by omega
                clear ho3 ho4 ho5 p5 p6 q1 q2 q3 HSTA HN
                go_wp2_with (first
                  | (go_at_call 40; refine (HGC.out _ _ 1 _ HW3.out rfl (by omega)).mono ?_; clear HW3; rintro e w4 ⟨rfl, hw4⟩; rw [← HO3.out] at hw4; have HW4 : Hid (AS w (.slice a bs.length c) bs w4 o3 (.slice (some ⟨g, 0, none⟩) (m + 1) lc) pre) := hw4; clear hw4)
                  | (go_at_call 40; refine (HGC.out _ _ 5 _ HW4.out rfl (by omega)).mono ?_; clear HW4; rintro e w5 ⟨rfl, hw5⟩; rw [← HO4.out] at hw5; have HW5 : Hid (AS w (.slice a bs.length c) bs w5 o4 (.slice (some ⟨g, 0, none⟩) (m + 1) lc) pre) := hw5; clear hw5)
                  | (go_at_call 40; refine (HGC.out _ _ 6 _ HW5.out rfl (by omega)).mono ?_; clear HW5; rintro e w6 ⟨rfl, hw6⟩; rw [← HO5.out] at hw6; obtain ⟨b3, b4⟩ := hw6.cells; have HW6 : Hid (AS w (.slice a bs.length c) bs w6 o5 (.slice (some ⟨g, 0, none⟩) (m + 1) lc) pre) := hw6; clear hw6))
                go_meet
                case rel => exact ⟨none, s, _, _, 0, rfl, rfl, rfl, by decide, HW6.out.spoil, HF.out, fun r' e => by cases e⟩
            · have e2i : ((gv 1 o2 : Int) == 1) = false := by simp; omega
              obtain ⟨o3, ho3⟩ : ∃ o3, o3 = gr 1 o2 := ⟨_, rfl⟩
              have HO3 : Hid (o3 = gr 1 o2) := ho3
              have q1 : gv 1 (dr (some r)) = 1 := by rw [← HO1.out]; exact e1
              have q2 : gv 1 (gr 1 (dr (some r))) ≠ 1 := by rw [← HO1.out, ← HO2.out]; exact e2
              rcases hW with ⟨hs0, rfl, rfl⟩ | ⟨hs0, rfl, rfl⟩
              · have HN : Hid (NextR s r none s) := next_blind q1 q2 hs0 s
                have HF : Hid (StA bs n (k + 1) pre none s (-1) (-1) D2) := HSTA.out.stop hkn h0 HN.out s _ _ D2
                clear ho3 q1 q2 HSTA HN e2
                go_wp2_with (first
                  | (go_at_call 40; refine (HGC.out _ _ 1 _ HW3.out rfl (by omega)).mono ?_; clear HW3; rintro e w4 ⟨rfl, hw4⟩; rw [← HO3.out] at hw4; obtain ⟨b3, b4⟩ := hw4.cells; have HW4 : Hid (AS w (.slice a bs.length c) bs w4 o3 (.slice (some ⟨g, 0, none⟩) (m + 1) lc) pre) := hw4; clear hw4))
                go_meet
                case rel => exact ⟨none, s, _, _, 0, rfl, rfl, rfl, by decide, HW4.out.spoil, HF.out, fun r' e => by cases e⟩
              · have HN := next_old q1 q2 hs0
                rw [← HO1.out, ← HO2.out, ← HO3.out] at HN
                obtain ⟨tl, htl⟩ : ∃ tl, tl = 64 - s.lead - s.size := ⟨_, rfl⟩
                rw [← htl] at HN
                have HWS0 : Hid (WinR s (s.lead : Int) (tl : Int)) := Or.inr ⟨hs0, rfl, by rw [htl]⟩
                rw [← htl] at HSTA ⊢
                have HTL : Hid (tl = 64 - s.lead - s.size) := htl
                obtain ⟨sz, hsz⟩ : ∃ sz, sz = s.size := ⟨_, rfl⟩
                obtain ⟨sl, hsld⟩ : ∃ sl, sl = s.lead := ⟨_, rfl⟩
                have hgl := gv_lt sz o3
                obtain ⟨gx, hgx⟩ : ∃ gx, gx = gv sz o3 := ⟨_, rfl⟩
                rw [← hsz, ← hgx] at HN
                rw [← hgx] at hgl
                have HGX : Hid (gv sz o3 = gx) := hgx.symm
                have hsl2 := shl_lt (n := sz) (t := tl) hgl (by omega)
                have hsh1 := shlv1 gx tl hsl2
                have hsh2 := shlv2 gx tl hsl2
                have htl64 : (tl : Int) < 64 := by omega
                have htl0 : (0 : Int) ≤ (tl : Int) := by omega
                have hsl0 : (0 : Int) ≤ (sl : Int) := by omega
                have hN64 : (64 : Int) - (sl : Int) - (tl : Int) = (sz : Int) := by omega
                have HGS : Hid (Good { timed s (cz r) with v := s.v ^^^ (gx <<< tl) }) := ⟨(HGD.out.timed (cz r)).t, (HGD.out.timed (cz r)).d, xor_lt hsv hsl2, HGD.out.lead, HGD.out.win⟩
                have HWS : Hid (WinR { timed s (cz r) with v := s.v ^^^ (gx <<< tl) } (sl : Int) (tl : Int)) := by rw [hsld]; exact HWS0.out
                have HSTA2 : Hid (StA bs n k pre (some r) s (sl : Int) (tl : Int) D) := by rw [hsld]; exact HSTA.out
                have hsz64 : sz ≤ 64 := by omega
                rw [← hsld]
                clear ho3 q1 q2 e2 HSTA htl hgx hgl HWS0 hs0 hsz hsld HTL hsl hsw
                cases hv : gr sz o3 with
                | none =>
                  rw [hv] at HN
                  have HF : Hid (StA bs n (k + 1) pre none s (sl : Int) (tl : Int) D2) := HSTA2.out.stop hkn h0 HN s _ _ D2
                  have HV : Hid (gr sz o3 = none) := hv
                  clear HSTA2 HN hv
                  go_wp2_with (first
                    | (go_at_call 40; refine (HGC.out _ _ 1 _ HW3.out rfl (by omega)).mono ?_; clear HW3; rintro e w4 ⟨rfl, hw4⟩; rw [← HO3.out] at hw4; have HW4 : Hid (AS w (.slice a bs.length c) bs w4 o3 (.slice (some ⟨g, 0, none⟩) (m + 1) lc) pre) := hw4; clear hw4)
                    | (go_at_call 40; refine (HGC.out _ _ sz _ HW4.out (by omega) (by omega)).mono ?_; clear HW4; rintro e w5 ⟨rfl, hw5⟩; rw [HGX.out]; rw [HV.out] at hw5; have b3 := hw5.cells.1; have HW5 : Hid (AS w (.slice a bs.length c) bs w5 none (.slice (some ⟨g, 0, none⟩) (m + 1) lc) pre) := hw5; clear hw5))
                  go_meet
                  case rel => exact ⟨none, s, _, _, gx <<< tl, rfl, rfl, rfl, hsl2, HW5.out, HF.out, fun r' e => by cases e⟩
                | some r' =>
                  rw [hv] at HN
                  have HV : Hid (gr sz o3 = some r') := hv
                  obtain ⟨r3, hr3⟩ := gr_some hv
                  rw [HO3.out] at hr3
                  obtain ⟨r2, hr2⟩ := gr_some hr3
                  rw [HO2.out] at hr2
                  obtain ⟨r1, hr1⟩ := gr_some hr2
                  obtain ⟨ht1, ht2⟩ := HTM.out r1 hr1
                  have hT2v : T2 = sg (UInt64.ofNat (timed s (cz r)).t) := by rw [← hT2a, ht1]; exact ht2
                  have HT2 : Hid (T2 = sg (UInt64.ofNat (timed s (cz r)).t)) := hT2v
                  have HF : Hid (StA bs n (k + 1) (pre ++ [(UInt64.ofNat (timed s (cz r)).t, UInt64.ofNat (s.v ^^^ (gx <<< tl)))]) (some r') { timed s (cz r) with v := s.v ^^^ (gx <<< tl) } (sl : Int) (tl : Int) D2) := HSTA2.out.more hkn h0 HN HGS.out HWS.out (fun _ _ => ht1)
                  clear HSTA2 HN hv hr1 hr2 hr3 ht1 ht2 hT2v
                  go_wp2_with (first
                    | (go_at_call 40; refine (HGC.out _ _ 1 _ HW3.out rfl (by omega)).mono ?_; clear HW3; rintro e w4 ⟨rfl, hw4⟩; rw [← HO3.out] at hw4; have HW4 : Hid (AS w (.slice a bs.length c) bs w4 o3 (.slice (some ⟨g, 0, none⟩) (m + 1) lc) pre) := hw4; clear hw4)
                    | (go_at_call 40; refine (HGC.out _ _ sz _ HW4.out (by omega) (by omega)).mono ?_; clear HW4; rintro e w5 ⟨rfl, hw5⟩; rw [HGX.out]; rw [HV.out] at hw5; have b3 := hw5.cells.1; have HW5 : Hid (AS w (.slice a bs.length c) bs w5 (some r') (.slice (some ⟨g, 0, none⟩) (m + 1) lc) pre) := hw5; clear hw5))
                  go_meet
                  case rel => exact ⟨some r', { timed s (cz r) with v := s.v ^^^ (gx <<< tl) }, _, _, gx <<< tl, rfl, rfl, rfl, hsl2, HW5.out, HF.out, fun _ _ => ⟨HT2.out, rfl⟩⟩
          · have e1i : ((gv 1 o1 : Int) == 1) = false := by simp; omega
            have HN : Hid (NextR s r (gr 1 o1) (timed s (cz r))) := by
              have h9 := e1
              rw [HO1.out] at h9 ⊢
              exact next_no h9
            clear e1
            cases hv : gr 1 o1 with
            | none =>
              rw [hv] at HN
              have HF : Hid (StA bs n (k + 1) pre none s L T D2) := HSTA.out.stop hkn h0 HN.out s L T D2
              have HV : Hid (gr 1 o1 = none) := hv
              clear HSTA HN hv
              have HW3b := HW3.out
              rw [HO2.out, HV.out] at HW3b
              go_wp2
              go_meet
              case rel => exact ⟨none, s, _, _, 0, rfl, rfl, rfl, by decide, HW3b, HF.out, fun r' e => by cases e⟩
            | some r' =>
              rw [hv] at HN
              have HV : Hid (gr 1 o1 = some r') := hv
              obtain ⟨r1, hr1⟩ := gr_some hv
              obtain ⟨ht1, ht2⟩ := HTM.out r1 hr1
              have hT2v : T2 = sg (UInt64.ofNat (timed s (cz r)).t) := by rw [← hT2a, ht1]; exact ht2
              have HT2 : Hid (T2 = sg (UInt64.ofNat (timed s (cz r)).t)) := hT2v
              have HF : Hid (StA bs n (k + 1) (pre ++ [(UInt64.ofNat (timed s (cz r)).t, UInt64.ofNat s.v)]) (some r') (timed s (cz r)) L T D2) := HSTA.out.more hkn h0 HN.out (HGD.out.timed _) hW (fun _ _ => ht1)
              have hx : bits .xor .u64 (s.v : Int) 0 = (s.v : Int) := by
                have := u64_xor_nat s.v 0 hsv (by omega)
                rw [Nat.xor_zero] at this
                exact this
              have hfr : ∀ W : World, (callFunc 41 #[.int .u64 (s.v : Int)]).run Tryd.prog W = .ok (.value (.float .f64 s.v)) W := fun W => frombits_run (s.v : Nat) W
              clear HSTA HN hv hr1 ht1 ht2 hT2v
              have HW3b := HW3.out
              rw [HO2.out, HV.out] at HW3b
              go_wp2
              go_meet
              case rel => exact ⟨some r', timed s (cz r), _, _, 0, rfl, rfl, rfl, by decide, HW3b, HF.out, fun _ _ => ⟨HT2.out, (Nat.xor_zero _).symm⟩⟩
        case rest =>
          obtain ⟨o', s', L', T', x, rfl, rfl, rfl, HH⟩ := hcut
          obtain ⟨hxl, hA, hSt, hv⟩ := HH.out
          obtain ⟨l3, l4⟩ := HLAST.out wc _ hA
          have b3 := hA.cells.1
          clear HH HW3
          cases o' with
          | none =>
            have HF : Hid (StA bs n (k + 1) pre none s' L' T' D2) := hSt
            have HWc : Hid (AS w (.slice a bs.length c) bs wc none (.slice (some ⟨g, 0, none⟩) (m + 1) lc) pre) := hA
            clear hSt hv hA HGC HTM HLAST
            go_wp2
            go_roundw
            case rel =>
              exact ⟨k + 1, pre, none, s', L', T', D2, by omega, by omega, by go_num, rfl, rfl, rfl, HF.out, HWc.out⟩
            case measure => simp [intOf]; omega
          | some r' =>
            obtain ⟨hT2v, hnv⟩ := hv r' rfl
            obtain ⟨nv, hnvd⟩ : ∃ nv, nv = s.v ^^^ x := ⟨_, rfl⟩
            have hx := u64_xor_nat s.v x hsv hxl
            rw [← hnvd] at hx hnv
            have HXV : Hid ((UInt64.ofNat nv).toNat = nv) := by rw [hnvd]; exact ofNat_nat (xor_lt hsv hxl)
            have hfr : ∀ W : World, (callFunc 41 #[.int .u64 (nv : Int)]).run Tryd.prog W = .ok (.value (.float .f64 nv)) W := fun W => frombits_run (nv : Nat) W
            obtain ⟨tv, htv⟩ : ∃ tv, tv = s'.t := ⟨_, rfl⟩
            have HT2 : Hid (T2 = sg (UInt64.ofNat tv)) := by rw [htv]; exact hT2v
            have HF : Hid (StA bs n (k + 1) (pre ++ [(UInt64.ofNat tv, UInt64.ofNat nv)]) (some r') s' L' T' D2) := by
              rw [htv, ← hnv]
              exact hSt
            have HWc : Hid (AS w (.slice a bs.length c) bs wc (some r') (.slice (some ⟨g, 0, none⟩) (m + 1) lc) pre) := hA
            clear hSt hv hA HGC HTM HLAST hT2v hnv hnvd htv
            go_upto_region 24 with fail
            have HW4 : Hid (AS w (.slice a bs.length c) bs (wc.alloc (.cells #[.int .i64 A, .float .f64 s.v] 35)) (some r') (.slice (some ⟨g, 0, none⟩) (m + 1) lc) pre) := HWc.out.alloc _
            have q0 : (wc.alloc (.cells #[.int .i64 A, .float .f64 s.v] 35)).cell? ⟨wc.heap.size, 0, none⟩ = some (.int .i64 A) := by rw [cell_of_heap (heap_alloc_new wc _)]; rfl
            have q1 : (wc.alloc (.cells #[.int .i64 A, .float .f64 s.v] 35)).cell? ⟨wc.heap.size, 1, none⟩ = some (.float .f64 s.v) := by rw [cell_of_heap (heap_alloc_new wc _)]; rfl
            generalize wc.alloc (.cells #[.int .i64 A, .float .f64 s.v] 35) = W4 at *
            have q2 : W4.drew.cell? ⟨wc.heap.size, 0, none⟩ = some (.int .i64 A) := q0
            have q3 : W4.drew.cell? ⟨wc.heap.size, 1, none⟩ = some (.float .f64 s.v) := q1
            have hs4 := HW4.out.2.2.size
            generalize wc.heap.size = q at *
            have HROW4 : Hid (∀ ob, (W4.drew.alloc ob).ownsRow w.heap.size 35 2 (.slice (some ⟨g, 0, none⟩) (m + 1) lc) (m + 1) (smCells pre)) := fun ob => by
              have h9 := (HW4.out.drew.alloc ob).2.1
              rw [hpl1] at h9
              exact h9
            clear HWc q0 q1 b2 b3 l3 l4 hi0 hz0 hz1 hz2 hzr hDi hsti hD2a hD2b hD2i hT2b HO1 hsl hsw
            go_region_law (first
              | (refine step_append_smp _ (by rfl) _ _ (by rfl) w.heap.size (.slice (some ⟨g, 0, none⟩) (m + 1) lc) (m + 1) (smCells pre) (by rfl) (HROW4.out _) W4.heap.size T2 nv (by rfl) (heap_alloc_new W4.drew _) (by omega) (by simp; omega) ?_; intro c5 d5 w5 hr5 hg5; have HW5 : Hid (AS w (.slice a bs.length c) bs w5 (some r') (.slice c5 (m + 1 + 1) d5) (pre ++ [(UInt64.ofNat tv, UInt64.ofNat nv)])) := (HW4.out.drew.alloc _).push hg5 (by rw [hpl1, ← HT2.out, show (UInt64.ofNat nv).toNat = nv from HXV.out]; exact hr5); clear hr5 hg5))
            all_goals
              go_wp2
              go_roundw
              case rel => exact ⟨k + 1, _, some r', s', L', T', D2, by omega, by rw [List.length_append, List.length_cons, List.length_nil]; omega, by go_num, rfl, rfl, rfl, HF.out, HW5.out⟩
              case measure => simp [intOf]; omega
    · have hdone := hI.out.1.done (by
        by_cases h1 : k < n
        · left
          cases o with
          | none => rfl
          | some r => exact absurd ⟨h1, by simp⟩ hko
        · right
          omega)
      have HR : Hid (AS w (.slice a bs.length c) bs wr o _ pre) := hI.out.2
      have HDONE : Hid (decR bs = pre) := hdone
      have hco : ¬ ((k : Int) < (n : Int)) ∨ ((k : Int) < (n : Int) ∧ o = none) := by
        by_cases h1 : k < n
        · right
          refine ⟨by omega, ?_⟩
          cases o with
          | none => rfl
          | some r => exact absurd ⟨h1, by simp⟩ hko
        · left
          omega
      clear hI hdone hko
      rcases hco with h1 | ⟨h1, rfl⟩
      all_goals
        go_wp2
        go_ret
        refine ⟨_, rfl, ?_, HR.out.2.2⟩
        rw [HDONE.out]
        exact HR.out.2.1

end Go.Proofs.YtkmclgbiedbfpaaDoor
