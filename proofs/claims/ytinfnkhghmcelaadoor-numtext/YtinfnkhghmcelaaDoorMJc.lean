/- Texts that belong together. -/
import Derived.Test.YtinfnkhghmcelaaDoorMJa
import Derived.Test.YtinfnkhghmcelaaDoorMPp
import Derived.Test.YtinfnkhghmcelaaDoorMDe
/- The document's naturals: one more. -/
namespace Go.Proofs.YtinfnkhghmcelaaDoor
open Go.RowKit Go.Maps

def plQ : List Nat → List Nat
  | [] => [1]
  | d :: t => if d < 9999 then (d + 1) :: t else 0 :: plQ t
theorem plQ_dig : ∀ (k A : Nat), A ≤ k → plQ (digQ A) = digQ (A + 1)
  | k, A, h => by
    by_cases hA : A = 0
    · subst hA
      rw [digQ_zero, plQ, digQ_step (N := 0 + 1) (d := 1) (M := 0) (by omega) (by omega) (by omega), digQ_zero]
    · rw [digQ_pos (n := A) (by omega), plQ]
      split
      · rename_i h1
        exact (digQ_step (by omega) (by omega) (by omega)).symm
      · rename_i h1
        cases k with
        | zero => omega
        | succ k =>
          rw [plQ_dig k (A / 10000) (by omega)]
          exact (digQ_step (by omega) (by omega) (by omega)).symm
theorem drop_get {cur ds : List Nat} {i n : Nat} (hdr : cur.drop i = ds.drop i) (hc : cur.length = n) (hi : i < n) (hl : ds.length = n) : ds[i]'(by omega) = cur.getD i 0 := by
  have h1 : (cur.drop i)[0]? = (ds.drop i)[0]? := by rw [hdr]
  rw [List.getElem?_drop, List.getElem?_drop, Nat.add_zero, List.getElem?_eq_getElem (by omega), List.getElem?_eq_getElem (by omega)] at h1
  rw [List.getD_eq_getElem?_getD, List.getElem?_eq_getElem (by omega)]
  exact (Option.some.inj h1).symm
theorem plQ_at {ds : List Nat} {i : Nat} (h : i < ds.length) : plQ (ds.drop i) = if ds[i] < 9999 then (ds[i] + 1) :: ds.drop (i + 1) else 0 :: plQ (ds.drop (i + 1)) := by
  rw [← List.getElem_cons_drop h, plQ]
theorem set_split {cur : List Nat} {i x : Nat} (h : i < cur.length) : cur.set i x = cur.take i ++ x :: cur.drop (i + 1) := by
  rw [List.set_eq_take_append_cons_drop, if_pos h]

set_option maxRecDepth 100000 in
set_option maxHeartbeats 1000000 in
theorem refPlus_any (v : Value) (A : Nat) (w : World) (h : QAt w v A) (hA : 0 < A) (hl : (digQ A).length ≤ 40000) :
    Calls Tryd.prog 38 #[v] w fun e w' => ∃ a c, e = .returned (.slice a (digQ (A + 1)).length c) ∧ QAt w' (.slice a (digQ (A + 1)).length c) (A + 1) ∧ Below w.heap.size w w' := by
  obtain ⟨a, c, rfl, -⟩ := id h
  obtain ⟨n, hn⟩ : ∃ n, n = (digQ A).length := ⟨_, rfl⟩
  have hn0 : 0 < n := by rw [hn, digQ_pos hA]; simp
  have HR : Hid (plQ (digQ A) = digQ (A + 1)) := plQ_dig A A (Nat.le_refl _)
  have HDL : Hid (∀ d ∈ digQ A, d < 10000) := digQ_lt A A (Nat.le_refl _)
  have HAT : Hid (DAt w (.slice a n c) (digQ A)) := by rw [hn]; exact h
  have HN : Hid (n = (digQ A).length) := hn
  rw [← hn] at hl ⊢
  generalize digQ A = ds at *
  generalize hRe : digQ (A + 1) = R at *
  have HRE : Hid (digQ (A + 1) = R) := hRe
  clear hRe
  clear h hn
  go_enter Tryd.func38, Tryd.ntmps38
  go_wp2_with (at_builtin; refine wpList_append_nat _ rfl _ _ rfl w.heap.size (some ⟨w.heap.size, 0, none⟩) 0 0 [] rfl (World.ownsRow_made w #[] 0 (Nat.le_refl _) (by unfold maxLen; omega) rfl) ds n a c HN.out rfl (HAT.out.below ((Below.refl _ _).alloc (Nat.le_refl _) _)) hn0 (by omega) (by simp) ?_; intro a3 c3 w3 hr3 hg3; rw [Nat.zero_add, List.nil_append] at hr3; rw [Nat.zero_add]; have HRW0 : Hid (w3.ownsRow w.heap.size 3 1 (.slice a3 n c3) n (i64s ds)) := hr3; have HB0 : Hid (Below w.heap.size w w3) := (((Below.refl _ _).alloc (Nat.le_refl _) _).grown hg3 (by simp) (fun j hj => by (cases hj; exact Nat.le_refl _))); clear hr3 hg3)
  go_loopw [4] (fun iv wr => ∃ (i : Nat) (cur : List Nat), iv = .int .i64 i ∧ i ≤ n ∧ Hid (cur.length = n ∧ wr.ownsRow w.heap.size 3 1 (.slice a3 n c3) n (i64s cur) ∧ cur.drop i = ds.drop i ∧ cur.take i ++ plQ (ds.drop i) = R ∧ Below w.heap.size w wr)) (fun iv _ => n - (intOf iv).toNat)
  case atStart => exact ⟨0, ds, rfl, Nat.zero_le _, HN.out.symm, HRW0.out, rfl, by simpa using HR.out, HB0.out⟩
  case round =>
    clear HRW0 HB0
    obtain ⟨i, cur, rfl, hi, HI⟩ := hrel
    by_cases hin : i < n
    · have hii : (i : Int) < n := by omega
      obtain ⟨g, rfl, hg, hcell, hfr⟩ := row_at HI.out.2.1 HI.out.1.symm hin
      have hdl : i < ds.length := by rw [← HN.out]; exact hin
      have hds := drop_get HI.out.2.2.1 HI.out.1 hin HN.out.symm
      have hlt := HDL.out _ (List.getElem_mem hdl)
      have hR := HI.out.2.2.2.1
      rw [plQ_at hdl] at hR
      rw [hds] at hlt hR
      have hdr : cur.drop (i + 1) = ds.drop (i + 1) := by
        have h1 : (cur.drop i).drop 1 = (ds.drop i).drop 1 := by rw [HI.out.2.2.1]
        rwa [List.drop_drop, List.drop_drop] at h1
      have hcl : i < cur.length := by rw [HI.out.1]; exact hin
      have hset : ∀ x : Nat, (wr.setCell ⟨g, i, none⟩ (.int .i64 ((x : Nat) : Int))).ownsRow w.heap.size 3 1 (.slice (some ⟨g, 0, none⟩) n c3) n (i64s (cur.set i x)) := fun x => by
        rw [← i64s_set]
        exact ownsRow_set HI.out.2.1 rfl _
      have hBW : ∀ u : Value, Below w.heap.size w (wr.setCell ⟨g, i, none⟩ u) := fun u => HI.out.2.2.2.2.setCell (p := ⟨g, i, none⟩) hg u
      by_cases h99 : cur.getD i 0 < 9999
      · rw [if_pos h99, ← hdr, ← set_split hcl] at hR
        have HRES : Hid (R.length = n ∧ (wr.setCell ⟨g, i, none⟩ (.int .i64 (((cur.getD i 0 + 1 : Nat)) : Int))).ownsRow w.heap.size 3 1 (.slice (some ⟨g, 0, none⟩) n c3) n (i64s R) ∧ Below w.heap.size w (wr.setCell ⟨g, i, none⟩ (.int .i64 (((cur.getD i 0 + 1 : Nat)) : Int)))) := ⟨by rw [← hR, List.length_set, HI.out.1], by rw [← hR]; exact hset _, hBW _⟩
        have h9i : (cur.getD i 0 : Int) < 9999 := by omega
        clear hR hdr hset hBW HI hds hdl hcl
        generalize cur.getD i 0 = d at *
        have e9 : ((d + 1 : Nat) : Int) = (d : Int) + 1 := by omega
        rw [e9] at HRES
        clear e9
        go_wp2
        go_ret
        exact ⟨some ⟨g, 0, none⟩, c3, by rw [HRES.out.1]; rfl, (by unfold QAt; rw [HRE.out]; exact DRow.at (base := w.heap.size) (by rw [DRow, HRES.out.1]; exact HRES.out.2.1)), HRES.out.2.2⟩
      · rw [if_neg h99] at hR
        have h9i : ¬ (cur.getD i 0 : Int) < 9999 := by omega
        have HNX : Hid ((cur.set i 0).length = n ∧ (wr.setCell ⟨g, i, none⟩ (.int .i64 0)).ownsRow w.heap.size 3 1 (.slice (some ⟨g, 0, none⟩) n c3) n (i64s (cur.set i 0)) ∧ (cur.set i 0).drop (i + 1) = ds.drop (i + 1) ∧ (cur.set i 0).take (i + 1) ++ plQ (ds.drop (i + 1)) = R ∧ Below w.heap.size w (wr.setCell ⟨g, i, none⟩ (.int .i64 0))) := by
          refine ⟨by rw [List.length_set, HI.out.1], hset 0, by rw [List.drop_set_of_lt (by omega), hdr], ?_, hBW _⟩
          rw [← hR, List.take_succ_eq_append_getElem (by rw [List.length_set]; exact hcl), List.getElem_set_self, List.take_set_of_le (by omega), List.append_assoc, List.singleton_append]
        clear hR hdr hset hBW HI hds hdl hcl
        generalize hcs : cur.set i 0 = cur' at HNX
        clear hcs
        generalize cur.getD i 0 = d at *
        go_wp2
        go_roundw
        case rel => exact ⟨i + 1, cur', by go_num, by omega, HNX.out⟩
        case measure => simp [intOf]; omega
    · have hii : ¬ (i : Int) < n := by omega
      obtain rfl : i = n := by omega
      have hR := HI.out.2.2.2.1
      rw [List.drop_of_length_le (by rw [← HN.out]; exact Nat.le_refl _), plQ, List.take_of_length_le (by rw [HI.out.1]; exact Nat.le_refl _)] at hR
      have HRW : Hid (wr.ownsRow w.heap.size 3 1 (.slice a3 i c3) i (i64s cur)) := HI.out.2.1
      have HBL : Hid (Below w.heap.size w wr) := HI.out.2.2.2.2
      have hsz := HI.out.2.2.2.2.size
      have HRR : Hid (R.length = i + 1 ∧ cur ++ [1] = R) := ⟨by rw [← hR]; simp [HI.out.1], hR⟩
      clear hR HI hin
      go_wp2_with (at_builtin; refine wpList_append_num _ rfl _ _ rfl w.heap.size a3 i c3 cur rfl (World.ownsRow.alloc HRW.out _) wr.heap.size (1 : Int) 1 rfl rfl (heap_alloc_new wr _) (by omega) (by simp; omega) ?_; intro a4 c4 w4 hr4 hg4)
      go_ret
      exact ⟨a4, c4, by rw [HRR.out.1]; rfl, (by unfold QAt; rw [HRE.out]; exact DRow.at (base := w.heap.size) (by rw [DRow, HRR.out.1, ← HRR.out.2]; exact hr4)), (HBL.out.alloc hsz _).grown hg4 (by simp; omega) (fun j hj => (HRW.out.lt j hj).1)⟩
end Go.Proofs.YtinfnkhghmcelaaDoor

/- A number without its sign. -/
namespace Go.Proofs.YtinfnkhghmcelaaDoor
open Go.RowKit Go.Maps

set_option maxRecDepth 100000 in
theorem size_any (n : Int) (w : World) (h1 : -9223372036854775808 ≤ n) (h2 : n ≤ 9223372036854775807) : Calls Tryd.prog 55 #[.int .i64 n] w fun e w' => e = .returned (.int .u64 (n.natAbs : Nat)) ∧ w' = w := by
  by_cases h0 : n < 0
  · have HE : Hid (((n.natAbs : Nat) : Int) = IntKind.u64.wrap (-IntKind.u64.wrap n)) := by
      show _ = _
      rw [wrapU, wrapU]
      omega
    go_enter Tryd.func55, Tryd.ntmps55
    go_wp2
    go_ret
    exact ⟨by rw [HE.out]; rfl, rfl⟩
  · have HE : Hid (((n.natAbs : Nat) : Int) = n) := by
      show _ = _
      omega
    go_enter Tryd.func55, Tryd.ntmps55
    go_wp2
    go_ret
    exact ⟨by rw [HE.out]; rfl, rfl⟩

theorem ret_ui {a b c d : Int} (h1 : a = b) (h2 : c = d) : Ending.returned (.tuple #[.int .u64 a, .int .i64 c]) = .returned (.tuple #[.int .u64 b, .int .i64 d]) := by rw [h1, h2]
/-- The count and the power of two of a float's bits, which have no sign. -/
def apartN (raw : Nat) : Nat × Int := if raw / 4503599627370496 = 0 then (raw % 4503599627370496, -1074) else (raw % 4503599627370496 + 4503599627370496, ((raw / 4503599627370496 : Nat) : Int) - 1 + -1074)

set_option maxRecDepth 100000 in
theorem apart_any (raw : Nat) (w : World) (h : raw < 9223372036854775808) : Calls Tryd.prog 32 #[.int .u64 raw] w fun e w' => e = .returned (.tuple #[.int .u64 (apartN raw).1, .int .i64 (apartN raw).2]) ∧ w' = w := by
  obtain ⟨m, hm⟩ : ∃ m, m = raw % 4503599627370496 := ⟨_, rfl⟩
  have hand : bits .and .u64 (raw : Int) 4503599627370495 = (m : Int) := by
    have h1 := u64_and_nat raw 4503599627370495 (by omega) (by decide)
    have e : raw &&& 4503599627370495 = m := by rw [hm]; exact Nat.and_two_pow_sub_one_eq_mod raw 52
    rw [e] at h1
    exact h1
  have hor : bits .or .u64 (m : Int) 4503599627370496 = ((m + 4503599627370496 : Nat) : Int) := by
    have h1 := u64_or_nat m 4503599627370496 (by omega) (by decide)
    have e : 4503599627370496 ||| m = 4503599627370496 + m := nat_join 52 4503599627370496 m (by decide) (by omega)
    rw [Nat.or_comm, e, Nat.add_comm] at h1
    exact h1
  by_cases h0 : raw / 4503599627370496 = 0
  · have HE : Hid (apartN raw = (m, -1074)) := by show _ = _; unfold apartN; rw [if_pos h0, hm]
    have h0' : (raw : Int) / 4503599627370496 = 0 := by omega
    clear hm h0
    go_enter Tryd.func32, Tryd.ntmps32
    go_wp2
    go_ret2
    exact ⟨by rw [HE.out]; rfl, rfl⟩
  · have HE : Hid (apartN raw = (m + 4503599627370496, ((raw / 4503599627370496 : Nat) : Int) - 1 + -1074)) := by show _ = _; unfold apartN; rw [if_neg h0, hm]
    have h0' : ((raw : Int) / 4503599627370496 == 0) = false := by rw [beq_eq_false_iff_ne]; omega
    clear hm h0
    go_enter Tryd.func32, Tryd.ntmps32
    go_wp2
    go_ret2
    exact ⟨by rw [HE.out]; exact ret_ui (by simp) (by simp), rfl⟩

end Go.Proofs.YtinfnkhghmcelaaDoor
