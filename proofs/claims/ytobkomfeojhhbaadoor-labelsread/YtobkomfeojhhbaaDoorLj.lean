/- A set's bytes. -/
import Derived.Test.YtobkomfeojhhbaaDoorLg
import Derived.Test.YtobkomfeojhhbaaDoorLi
import Derived.Test.YtobkomfeojhhbaaDoorLd
import Derived.Maps.OwnIn
namespace Go.Proofs.YtobkomfeojhhbaaDoor
open Go.RowKit Go.Shelf Go.Maps
attribute [local go_sem] Oper.semAt_some

def lab (x : Lb) : List UInt8 := txt x.1 ++ txt x.2
def bytesL (ls : List Lb) : List UInt8 := [UInt8.ofNat ls.length] ++ ls.flatMap lab
def sizeOfL (ls : List Lb) : Nat := 1 + (ls.map fun x => 4 + x.1.size + x.2.size).sum
theorem sizeOfL_snoc (ls : List Lb) (x : Lb) : sizeOfL (ls ++ [x]) = sizeOfL ls + (4 + x.1.size + x.2.size) := by simp [sizeOfL]; omega
theorem sizeOfL_bound (xs : List SLb) : sizeOfL (xs.map Subtype.val) ≤ 1 + xs.length * 2052 := by
  induction xs with
  | nil => simp [sizeOfL]
  | cons a t ih =>
    have := a.2
    simp [sizeOfL] at *
    omega
theorem lab_length (x : Lb) : (lab x).length = 4 + x.1.size + x.2.size := by unfold lab; rw [List.length_append, txt_length, txt_length]; omega
theorem labs_bound (xs : List SLb) : ((xs.map Subtype.val).flatMap lab).length ≤ xs.length * 2052 := by
  induction xs with
  | nil => simp
  | cons a t ih =>
    have := a.2
    rw [List.map_cons, List.flatMap_cons, List.length_append, lab_length, List.length_cons]
    omega

/-- A slice in a box, longer by a call. -/
theorem boxed_called {W w1 : World} {n₀ B : Nat} {v v' : Value} {bs bs' : List UInt8} (hv : Boxed W B 38 v) (hrow : Row W n₀ v bs) (hn₀ : n₀ ≤ W.heap.size) (hB : n₀ ≤ B) (hown' : Row w1 n₀ v' bs') (hgrow : W.grownBy w1 v.ownBlock) :
    Boxed w1 B 38 v ∧ Boxed (w1.setCell ⟨B, 0, none⟩ v') B 38 v' ∧ Row (w1.setCell ⟨B, 0, none⟩ v') n₀ v' bs' ∧ KeepsOthers W (w1.setCell ⟨B, 0, none⟩ v') ∧ Below n₀ W (w1.setCell ⟨B, 0, none⟩ v') := by
  have hv1 : Boxed w1 B 38 v := hv.kept hgrow (hv.not_row (by decide) hrow)
  refine ⟨hv1, hv1.set v', World.ownsRow.kept hown' (grownBy_setCell' w1 B v') (.inr (hv1.not_row (by decide) hown').symm), ?_, ?_⟩
  · refine (KeepsOthers.of_grownBy hgrow fun j o ej hj => ?_).trans (KeepsOthers.setCell _ _ _)
    rcases hrow.2 with ⟨rfl, _⟩ | ⟨g, cap, cur, rfl, _, hgb, _⟩
    · simp [Value.ownBlock] at ej
    · obtain rfl : g = j := by simpa [Value.ownBlock] using ej
      rw [hgb] at hj; cases hj; rfl
  · refine ((Below.refl n₀ W).grown hgrow hn₀ fun j ej => ?_).setCell (p := ⟨B, 0, none⟩) hB v'
    rcases hrow.2 with ⟨rfl, _⟩ | ⟨g, cap, cur, rfl, hb, _, _⟩
    · simp [Value.ownBlock] at ej
    · obtain rfl : g = j := by simpa [Value.ownBlock] using ej
      exact hb

set_option maxRecDepth 100000 in
set_option maxHeartbeats 1500000 in
theorem bytes_any (v : Value) (ls : List Lb) (w : World) (h : LabsAt w v ls) (hl : ls.length ≤ 255) (hsh : Short ls) :
    Calls Tryd.prog 30 #[v] w fun e w' => ∃ v', e = .returned v' ∧ Row w' w.heap.size v' (bytesL ls) ∧ Below w.heap.size w w' := by
  obtain ⟨a, c, rfl, hlc, -⟩ := id h
  have HC : Hid (LabsAt w (.slice a ls.length c) ls) := h
  have HS : Hid (Short ls) := hsh
  clear h hsh
  refine (callsIn_wide (n := 9)).1 ?_
  have t1 : Fence.wide.fn 58 := trivial
  have t5 : Fence.wide.fn 51 := trivial
  refine callsIn_of_wp_marks Tryd.func30 rfl trivial ?_ rfl
  simp only [Tryd.ntmps30, List.size_toArray, List.length_cons, List.length_nil, Nat.reduceAdd, Nat.reduceSub, Array.replicate_succ, Array.replicate_zero, List.push_toArray, List.append_toArray, List.nil_append, List.cons_append]
  gi_wp2_with (gi_at_call 51; refine (each_in Fence.wide _ t5 rfl _ _ _ _).mono ?_; rintro e w3 ⟨rfl, rfl⟩)
  obtain ⟨W0, hW0⟩ : ∃ W0, (w.alloc (Obj.cells #[Value.int IntKind.i64 1] 3)).alloc (Obj.cells #[Value.slice a ls.length c] 22) = W0 := ⟨_, rfl⟩
  have hs0 : W0.heap.size = w.heap.size + 2 := by rw [← hW0]; simp
  have hbx0 : Boxed W0 w.heap.size 3 (.int .i64 1) := by rw [← hW0]; exact (Boxed.new w 3 _).alloc _
  have hce0 : W0.cell? ⟨w.heap.size + 1, 0, none⟩ = some (.slice a ls.length c) := by
    have h9 := Boxed.new (w.alloc (Obj.cells #[Value.int IntKind.i64 1] 3)) 22 (.slice a ls.length c)
    rw [World.size_alloc] at h9
    rw [← hW0]
    exact h9.cell
  have hBw0 : Below w.heap.size w W0 := by rw [← hW0]; exact ((Below.refl _ _).alloc (Nat.le_refl _) _).alloc (by simp) _
  rw [hW0]
  clear hW0
  obtain ⟨xs, hxs⟩ := HS.out.lift
  refine wpIn_rangeFunc_ownF rfl (by omega) (gf := 73) (lb := #[.pointer (some ⟨w.heap.size + 1, 0, none⟩)]) rfl trivial (enters_of Tryd.func73 (by kernel_rfl) rfl)
    (each_stops (α := SLb) Subtype.val Fence.wide 8 trivial rfl (by omega) (w.heap.size + 1) w (.slice a ls.length c) xs ls hxs HC.out (by omega) W0 hBw0 (by omega) hce0)
    belowK_t (belowK_b (by omega)) (Below.refl _ _) (fun _ => rfl)
    (fun pre W => Boxed W w.heap.size 3 (.int .i64 (sizeOfL (pre.map Subtype.val))) ∧ Below w.heap.size w W)
    (fun _ _ _ => False)
    (OwnFrom.and (Own.from (show Own (fun (pre : List SLb) W => Boxed W w.heap.size 3 (.int .i64 (sizeOfL (pre.map Subtype.val)))) from fun s A B row hs hg hr => cells_kept hs hg hr) _) (ownFrom_below (Nat.le_refl _) (by omega)))
    (fun _ _ _ _ _ hs _ _ => hs)
    ⟨hbx0, hBw0⟩
    (fun x => { tmps := #[.slice a ls.length c, undef, .slice none 0 0, .pointer (some ⟨w.heap.size, 0, none⟩), .string x.1.1, .string x.1.2, undef, undef, undef, .slice a ls.length c, .func (.func 73) #[] #[.pointer (some ⟨w.heap.size + 1, 0, none⟩)], .string x.1.1, .string x.1.2, undef, undef, undef, undef, undef, undef, undef, undef, undef, undef, undef, undef, undef, undef, undef, undef, undef, undef, undef, undef, undef, undef, undef, undef, undef, undef, undef], defers := [] }) ?assign ?body ?done ?stop
  case assign =>
    intro l x W K hK
    dsimp only [encP]
    gi_wp2
    exact hK
  case body =>
    rintro l pre ⟨⟨nm, vl⟩, hx1, hx2⟩ W ⟨hBx, hBw⟩ hpl
    dsimp only at hx1 hx2
    have hbd := sizeOfL_bound pre
    have HF : Hid (sizeOfL ((pre ++ [(⟨(nm, vl), hx1, hx2⟩ : SLb)]).map Subtype.val) = sizeOfL (pre.map Subtype.val) + (4 + nm.size + vl.size)) := by
      show _ = _
      rw [List.map_append]
      exact sizeOfL_snoc _ _
    generalize sizeOfL (pre.map Subtype.val) = n at *
    have hxC := hBx.cell
    have hxF := hBx.frozen
    gi_wp2
    have ec : ((n + (4 + nm.size + vl.size) : Nat) : Int) = (n : Int) + (4 + nm.size + vl.size) := by omega
    exact ⟨KeepsOthers.setCell _ _ _, (Below.refl _ _).setCell (p := ⟨w.heap.size, 0, none⟩) (Nat.le_refl _) _, by rw [HF.out, ec]; exact hBx.set _, hBw.setCell (p := ⟨w.heap.size, 0, none⟩) (Nat.le_refl _) _⟩
  case done =>
    rintro D ys W hD rfl ⟨hBx, hBw⟩ hK
    have hbd := sizeOfL_bound ys
    have hyl : ys.length = ls.length := by rw [← hxs]; simp
    rw [hxs] at hBx hbd
    generalize hn : sizeOfL ls = n at *
    clear hn
    have hsW := hBw.size
    have hxC := hBx.cell
    have HK : Hid (W.heap[D]? = some (.deferred (some []))) := hK
    have hDl : D < W.heap.size := (Array.getElem?_eq_some_iff.1 hK).1
    obtain ⟨i0, hi0, hz0, hz1, hz2⟩ := info_parts infoU8
    obtain ⟨W1, hmk, hown1, hgrow1⟩ := run_make_own (P := Tryd.prog) (w := W) w.heap.size 38 5 i0 _ 1 Tryd.underlying38 hi0 hz0 hz1 .i64 .i64 n (by rw [hz2]; omega) (by unfold maxLen; omega) hsW
    have hBW1 : Below W.heap.size W W1 := (Below.refl _ _).grown hgrow1 (Nat.le_refl _) (fun j hj => by cases hj)
    have HB1 : Hid (Below W.heap.size W W1) := hBW1
    have HR1 : Hid (W1.ownsRow w.heap.size 5 1 (.slice (some ⟨W.heap.size, 0, none⟩) 0 n) 0 []) := hown1
    have hs1 := hBW1.size
    have hW1 : W.heap.size < W1.heap.size := (hown1.lt W.heap.size rfl).2
    have HST : Hid (∀ W2 v2, W2.ownsRow w.heap.size 5 1 v2 (0 + 1) ([] ++ [.int .u8 ls.length]) → ((W1.alloc (.cells #[.slice (some ⟨W.heap.size, 0, none⟩) 0 n] 38)).alloc (.cells #[.int .u8 ls.length] 5)).grownBy W2 (Value.slice (some ⟨W.heap.size, 0, none⟩) 0 n).ownBlock →
        Boxed W2 W1.heap.size 38 (.slice (some ⟨W.heap.size, 0, none⟩) 0 n) ∧ Boxed (W2.setCell ⟨W1.heap.size, 0, none⟩ v2) W1.heap.size 38 v2 ∧ Row (W2.setCell ⟨W1.heap.size, 0, none⟩ v2) w.heap.size v2 [UInt8.ofNat ls.length] ∧ Below w.heap.size w (W2.setCell ⟨W1.heap.size, 0, none⟩ v2) ∧ (W2.setCell ⟨W1.heap.size, 0, none⟩ v2).heap[D]? = some (.deferred (some []))) := fun W2 v2 hr2 hg2 => by
      have hb0 : Boxed (W1.alloc (.cells #[.slice (some ⟨W.heap.size, 0, none⟩) 0 n] 38)) W1.heap.size 38 (.slice (some ⟨W.heap.size, 0, none⟩) 0 n) := Boxed.new W1 _ _
      have hra := World.ownsRow.alloc HR1.out (.cells #[.slice (some ⟨W.heap.size, 0, none⟩) 0 n] 38)
      obtain ⟨h1, h2, h3, h4, h5⟩ := hb0.appended (by decide) hra (by simp; omega) (by omega) hr2 hg2
      have hbA : Below W.heap.size W (W1.alloc (.cells #[.slice (some ⟨W.heap.size, 0, none⟩) 0 n] 38)) := HB1.out.alloc hs1 _
      refine ⟨h1, h2, ?_, (hBw.trans (hbA.mono hsW)).trans h5, ?_⟩
      · have e9 : byteVals [UInt8.ofNat ls.length] = [.int .u8 ls.length] := by
          show [Value.int .u8 ((UInt8.ofNat ls.length).toNat : Int)] = _
          rw [UInt8.toNat_ofNat']
          have : ls.length % 2 ^ 8 = ls.length := Nat.mod_eq_of_lt (by omega)
          rw [this]
        unfold Row
        rw [e9]
        exact h3
      · exact h4.same D _ ((hbA.block D hDl).trans HK.out) rfl
    clear hgrow1 hBW1 hown1 hK
    gi_wp2_with (gi_at_builtin; refine wpListIn_append_own_at _ rfl _ _ 38 rfl w.heap.size 5 i0 _ 1 1 Tryd.underlying38 hi0 hz0 hz1 hz2 rfl (by decide) (.slice (some ⟨W.heap.size, 0, none⟩) 0 n) 0 [] rfl (World.ownsRow.alloc (World.ownsRow.alloc HR1.out _) _) ⟨W1.heap.size + 1, 0, none⟩ 1 1 [.int .u8 ls.length] rfl rfl (World.news_of_block (cs := #[.int .u8 ls.length]) (t := 5) (fr := (0, 0)) (heap_two W1 _ _)) (by simp [Value.oneCell']) (by unfold maxLen; omega) (by omega) (by simp; omega) ?_; intro v2 W2 hr2 hg2 hnil2 hloc2; obtain ⟨g2, cap2, rfl⟩ := ownsRow_succ hr2; obtain ⟨hbx6, hbx7, hrow7, hbel7, hk7⟩ := HST.out W2 _ hr2 hg2; have hc6 := hbx6.cell; have hf6 := hbx6.frozen)
    generalize (Value.slice (some { block := g2, off := 0 }) 1 cap2) = v3 at *
    generalize W2.setCell { block := W1.heap.size, off := 0 } v3 = W3 at *
    clear hc6 hf6 hbx6 hg2 hr2 hloc2 hnil2 HST HR1 HB1 hmk hbx0 hce0 hxC hBx
    obtain ⟨a3, c3, hv3⟩ := slice_of_row hrow7
    have hs3 := hbel7.size
    gi_wp2_with (gi_at_call 51; refine (each_in Fence.wide _ t5 rfl _ _ _ _).mono ?_; rintro e w5 ⟨rfl, rfl⟩)
    obtain ⟨W4, hW4⟩ : ∃ W4, W3.alloc (Obj.cells #[Value.slice a ls.length c] 22) = W4 := ⟨_, rfl⟩
    have hs4 : W4.heap.size = W3.heap.size + 1 := by rw [← hW4]; simp
    have hce4 : W4.cell? ⟨W3.heap.size, 0, none⟩ = some (.slice a ls.length c) := by rw [← hW4]; exact (Boxed.new W3 22 (.slice a ls.length c)).cell
    have hbx4 : Boxed W4 W1.heap.size 38 v3 := by rw [← hW4]; exact hbx7.alloc _
    have hrow4 : Row W4 w.heap.size v3 [UInt8.ofNat ls.length] := by rw [← hW4]; exact World.ownsRow.alloc hrow7 _
    have hbel4 : Below w.heap.size w W4 := by rw [← hW4]; exact hbel7.alloc hs3 _
    have hD3 : D < W3.heap.size := (Array.getElem?_eq_some_iff.1 hk7).1
    have hk4 : W4.heap[D]? = some (.deferred (some [])) := by rw [← hW4]; exact (Below.heap_alloc _ _ D hD3).trans hk7
    have hb6lt : W1.heap.size < W4.heap.size := hbx4.lt
    have ha3 : Value.slice a3 [UInt8.ofNat ls.length].length c3 = v3 := hv3.symm
    rw [hW4]
    clear hW4 hbx7 hrow7 hbel7 hk7 hBw
    refine wpIn_rangeFunc_ownF rfl (by omega) (gf := 73) (lb := #[.pointer (some ⟨W3.heap.size, 0, none⟩)]) rfl trivial (enters_of Tryd.func73 (by kernel_rfl) rfl)
      (each_stops (α := SLb) Subtype.val Fence.wide 8 trivial rfl (by omega) W3.heap.size w (.slice a ls.length c) ys ls hxs HC.out (by omega) W4 hbel4 (by omega) hce4)
      belowK_t (belowK_b (by omega)) (Below.refl _ _) (fun _ => rfl)
      (fun pre W => (∃ v, Boxed W W1.heap.size 38 v ∧ W.ownsRow w.heap.size 5 1 v ([UInt8.ofNat ls.length] ++ (pre.map Subtype.val).flatMap lab).length (byteVals ([UInt8.ofNat ls.length] ++ (pre.map Subtype.val).flatMap lab)) ∧ True) ∧ (W.heap[D]? = some (.deferred (some [])) ∧ Below w.heap.size w W))
      (fun _ _ _ => False)
      (OwnFrom.and (Own.from (holdsRow_own w.heap.size W1.heap.size 38 5 1 (fun pre : List SLb => ([UInt8.ofNat ls.length] ++ (pre.map Subtype.val).flatMap lab).length) (fun pre => byteVals ([UInt8.ofNat ls.length] ++ (pre.map Subtype.val).flatMap lab)) (fun _ _ => True)) _)
        (OwnFrom.and (fun s A B row hs hg hr => (hg.block D (Array.getElem?_eq_some_iff.1 hs).1 (fun e => by have := (hr D e.symm).1; omega)).trans hs) (ownFrom_below (Nat.le_refl _) (by omega))))
      (fun _ _ _ _ _ hs _ _ => hs)
      ⟨⟨v3, hbx4, by simpa [Row] using hrow4, trivial⟩, hk4, hbel4⟩
      (fun x => { tmps := #[.slice a ls.length c, undef, .slice none 0 0, .pointer (some ⟨w.heap.size, 0, none⟩), undef, undef, .pointer (some ⟨W1.heap.size, 0, none⟩), .string x.1.1, .string x.1.2, .slice a ls.length c, .func (.func 73) #[] #[.pointer (some ⟨w.heap.size + 1, 0, none⟩)], undef, undef, undef, undef, undef, undef, undef, undef, undef, undef, .int .i64 n, .slice (some ⟨W.heap.size, 0, none⟩) 0 n, .slice (some ⟨W.heap.size, 0, none⟩) 0 n, .slice a ls.length c, .int .i64 ls.length, .int .u8 ls.length, .slice (some ⟨W1.heap.size + 1, 0, none⟩) 1 1, .slice a3 1 c3, .slice a ls.length c, .func (.func 73) #[] #[.pointer (some ⟨W3.heap.size, 0, none⟩)], .string x.1.1, .string x.1.2, undef, undef, undef, undef, undef, undef, undef], defers := [] }) ?assign2 ?body2 ?done2 ?stop2
    case assign2 =>
      intro l x W K hK
      dsimp only [encP]
      gi_wp2
      exact hK
    case body2 =>
      rintro l pre ⟨⟨nm, vl⟩, hx1, hx2⟩ W ⟨⟨v5, hB5, hr5, -⟩, hD5, hBw5⟩ hpl
      dsimp only at hx1 hx2
      have hbd5 := labs_bound pre
      have HF : Hid ([UInt8.ofNat ls.length] ++ ((pre ++ [(⟨(nm, vl), hx1, hx2⟩ : SLb)]).map Subtype.val).flatMap lab = [UInt8.ofNat ls.length] ++ (pre.map Subtype.val).flatMap lab ++ txt nm ++ txt vl) := by
        show _ = _
        rw [List.map_append, List.flatMap_append]
        simp [lab]
      have hlen5 : ([UInt8.ofNat ls.length] ++ (pre.map Subtype.val).flatMap lab).length ≤ 1000000 := by
        rw [List.length_append, List.length_singleton]
        omega
      generalize [UInt8.ofNat ls.length] ++ (pre.map Subtype.val).flatMap lab = acc at *
      have hrow5 : Row W w.heap.size v5 acc := hr5
      clear hr5
      have hsW5 := hBw5.size
      obtain ⟨a5, c5, hv5⟩ := slice_of_row hrow5
      subst hv5
      have hc5 := hB5.cell
      have hf5 := hB5.frozen
      have HROW : Hid (Row W w.heap.size (.slice a5 acc.length c5) acc) := hrow5
      have hB6le : w.heap.size ≤ W1.heap.size := by omega
      have hcall1 := appendText_any w.heap.size _ acc nm W HROW.out (by omega) (by omega) hsW5
      have hl1 : (acc ++ txt nm).length ≤ 1002000 := by rw [List.length_append, txt_length]; omega
      generalize hac1 : acc ++ txt nm = acc1 at *
      have hcall2 := fun v W h1 h2 => appendText_any w.heap.size v acc1 vl W h1 (by omega) (by omega) h2
      generalize hac2 : acc1 ++ txt vl = acc2 at *
      have HF2 : Hid ([UInt8.ofNat ls.length] ++ ((pre ++ [(⟨(nm, vl), hx1, hx2⟩ : SLb)]).map Subtype.val).flatMap lab = acc2) := by
        exact HF.out
      clear HF hac1 hac2
      gi_wp2_with (first
        | (gi_at_call 58; refine (CallsIn.inRound l (callsIn_wide.2 hcall1)).mono ?_; clear hcall1; rintro e Wa ⟨va, rfl, hra, hga⟩; obtain ⟨ha1, ha2, ha3', ha4, ha5⟩ := boxed_called hB5 hrow5 hsW5 hB6le hra hga; obtain ⟨aa, ca, hva⟩ := slice_of_row hra; subst hva; have hca := ha1.cell; have hfa := ha1.frozen; have hsa := Nat.le_trans hsW5 ha4.size; have hcb := ha2.cell; have hfb := ha2.frozen)
        | (gi_at_call 58; refine (CallsIn.inRound l (callsIn_wide.2 (hcall2 _ _ ha3' hsa))).mono ?_; clear hcall2; rintro e Wb ⟨vb, rfl, hrb, hgb⟩; obtain ⟨hb1, hb2, hb3, hb4, hb5⟩ := boxed_called ha2 ha3' hsa hB6le hrb hgb; clear ha3'; obtain ⟨ab, cb, hvb⟩ := slice_of_row hrb; subst hvb; have hcc := hb1.cell; have hfc := hb1.frozen))
      exact ⟨ha4.trans hb4, ha5.trans hb5, ⟨_, hb2, by rw [HF2.out]; exact hb3, trivial⟩, (ha4.trans hb4).same D _ hD5 rfl, hBw5.trans (ha5.trans hb5)⟩
    case done2 =>
      rintro D2 zs W6 hD2 rfl ⟨⟨v6, hB6, hr6, -⟩, hD6, hBw6⟩ hK6
      rw [hxs] at hr6
      have hrow6 : Row W6 w.heap.size v6 (bytesL ls) := hr6
      clear hr6
      obtain ⟨a6, c6, hv6⟩ := slice_of_row hrow6
      subst hv6
      have hc6 := hB6.cell
      have HK6 : Hid (W6.heap[D2]? = some (.deferred (some []))) := hK6
      have HD6 : Hid (W6.heap[D]? = some (.deferred (some []))) := hD6
      clear hK6 hD6
      have hDne : D ≠ D2 := by omega
      have HROW : Hid (Row W6 w.heap.size (.slice a6 (bytesL ls).length c6) (bytesL ls)) := hrow6
      generalize hbl : bytesL ls = bl at *
      clear hrow6
      gi_wp2
      have hK7 : (W6.putObj D2 (.deferred none)).heap[D]? = some (.deferred (some [])) := (World.putObj_heap_other hDne).trans HD6.out
      refine ⟨by simp, .inl ⟨_, _, rfl, run_takeDeferred HK6.out, ?_⟩⟩
      refine ⟨by simp, .inl ⟨_, _, rfl, run_takeDeferred hK7, ?_⟩⟩
      refine ⟨_, results_tmp rfl _ _ _, _, rfl, ?_, ?_⟩
      · rw [hbl]
        exact ownsRow_putObj (ownsRow_putObj HROW.out _ HK6.out rfl) _ hK7 rfl
      · exact (hBw6.trans (belowK_b (w := w) (Nat.le_refl _) W6 D2 _ _ (by omega) HK6.out rfl rfl)).trans (belowK_b (w := w) (Nat.le_refl _) _ D _ _ (by omega) hK7 rfl rfl)
    case stop2 =>
      rintro D c pre W _ _ hF _
      exact hF.elim
  case stop =>
    rintro D c pre W _ _ hF _
    exact hF.elim

end Go.Proofs.YtobkomfeojhhbaaDoor
