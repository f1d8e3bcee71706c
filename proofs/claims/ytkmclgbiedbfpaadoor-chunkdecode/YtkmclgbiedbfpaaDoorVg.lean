/- Bytes that are spoilt, lent, and looked at again. -/
import Derived.Test.YtkmclgbiedbfpaaDoorK8
namespace Go.Proofs.YtkmclgbiedbfpaaDoor
open Go.RowKit Go.Maps

theorem row_lo {w : World} {base size n : Nat} {e : TypeId} {v : Value} {xs : List Value} (h : w.ownsRow base e size v n xs) : ∀ j, v.ownBlock = some j → base ≤ j := fun j hj => (h.lt j hj).1
theorem below_grown {w wr w1 : World} {v : Value} (hb : Below w.heap.size w wr) (hlo : ∀ j, v.ownBlock = some j → w.heap.size ≤ j) (hg : wr.grownBy w1 v.ownBlock) : Below w.heap.size w w1 :=
  hb.grown hg hb.size hlo
theorem row_room {w : World} {base n size g c : Nat} {e : TypeId} {xs : List Value} (ho : w.ownsRow base e size (.slice (some ⟨g, 0, none⟩) n c) n xs) : n ≤ c ∧ c ≤ maxLen := by
  rcases ho.2 with ⟨e, _⟩ | ⟨g', cap, cur, e, _, _, h1, h2, _⟩
  · cases e
  · cases e
    exact ⟨h1, h2⟩
def Nums (xs : List Value) : Prop := ∀ (j : Nat) (u : Value), xs[j]? = some u → ∃ n, u = Value.int .u8 n
theorem Nums.set {xs : List Value} (h : Nums xs) (i : Nat) (n : Int) : Nums (xs.set i (.int .u8 n)) := fun j u hu => by
  rw [List.getElem?_set] at hu
  split at hu
  · split at hu
    · cases hu; exact ⟨n, rfl⟩
    · cases hu
  · exact h j u hu
theorem nums_bytes (bs : List UInt8) : Nums (byteVals bs) := fun j u hu => by
  unfold byteVals at hu
  rw [List.getElem?_map] at hu
  cases h : bs[j]? with
  | none => rw [h] at hu; cases hu
  | some b => rw [h] at hu; cases hu; exact ⟨_, rfl⟩
theorem row_num {w : World} {base : Nat} {n g c : Nat} {xs : List Value} (h : w.ownsRow base 5 1 (.slice (some ⟨g, 0, none⟩) n c) n xs) (hx : Nums xs) {j : Nat} (hj : j < n) : (∃ m, w.cell? ⟨g, j, none⟩ = some (.int .u8 m)) ∧ w.frozen? ⟨g, j, none⟩ = false := by
  obtain ⟨-, hf⟩ := row_cell h (j := j) (by omega)
  have hl := h.1
  have hj' : j < xs.length := by omega
  obtain ⟨m, hm⟩ := hx j xs[j] (by simp [hj'])
  have hc := h.cells (g := g) rfl j xs[j] (by simp [hj'])
  rw [Addr.add_lit, Nat.zero_add, hm] at hc
  exact ⟨⟨m, hc⟩, hf⟩

set_option maxRecDepth 100000 in
set_option maxHeartbeats 2000000 in
theorem spoilB_any (base : Nat) (v : Value) (bs : List UInt8) (w : World) (h : w.ownsRow base 5 1 v bs.length (byteVals bs)) (hl : bs.length ≤ 10000000) (hb : base ≤ w.heap.size) :
    Calls Tryd.prog 16 #[v] w fun e w' => e = .returned (.tuple #[]) ∧ Kept (fun k => v.ownBlock = some k) w w' := by
  obtain ⟨a, c, rfl⟩ := slice_of_row h
  have HR : Hid (w.ownsRow base 5 1 (.slice a bs.length c) bs.length (byteVals bs) ∧ Nums (byteVals bs)) := ⟨h, nums_bytes bs⟩
  clear h
  generalize byteVals bs = xs at *
  generalize bs.length = n at *
  go_enter Tryd.func16, Tryd.ntmps16
  go_wp2
  go_loopw [2] (fun i wr => ∃ (k : Nat) (xs : List Value), k ≤ n ∧ i = .int .i64 k ∧ Hid (wr.ownsRow base 5 1 (.slice a n c) n xs ∧ Nums xs) ∧ Hid (Kept (fun k => (Value.slice a n c).ownBlock = some k) w wr)) (fun i _ => n - (intOf i).toNat)
  case atStart => exact ⟨0, xs, Nat.zero_le _, rfl, HR, Kept.refl _ _⟩
  case round =>
    obtain ⟨k, ys, hk, rfl, hrow, hkep⟩ := hrel
    by_cases hlt : k < n
    · obtain ⟨g, rfl⟩ := row_some hrow.out.1 (by omega)
      obtain ⟨⟨m, q0⟩, f0⟩ := row_num hrow.out.1 hrow.out.2 hlt
      have hkl : (k : Int) < (n : Int) := by omega
      clear HR
      go_wp2
      go_roundw
      case rel => exact ⟨k + 1, _, by omega, by go_num, ⟨ownsRow_set hrow.out.1 (g := g) rfl (i := k) _, hrow.out.2.set k _⟩, hkep.out.setCell (p := ⟨g, k, none⟩) (fun _ => rfl) _⟩
      case measure => simp [intOf]; omega
    · clear HR
      have HR0 : Hid (wr.ownsRow base 5 1 (.slice a n c) n ys) := hrow.out.1
      clear hrow
      go_wp2
      go_loopw [0, 3] (fun vv i wr => ∃ (k m : Nat) (xs : List Value), k ≤ 40 ∧ i = .int .i64 k ∧ m ≤ 10000000 + k ∧ Hid (wr.ownsRow base 5 1 vv m xs) ∧ Hid (Kept (fun k => (Value.slice a n c).ownBlock = some k) w wr) ∧ Hid (vv.ownBlock = (Value.slice a n c).ownBlock ∨ ∃ j, vv.ownBlock = some j ∧ w.heap.size ≤ j)) (fun _ i _ => 40 - (intOf i).toNat)
      case atStart => exact ⟨0, n, ys, by omega, rfl, by omega, HR0, hkep, Or.inl rfl⟩
      case round =>
        clear HR0 hkep
        obtain ⟨k, m, ys, hk, rfl, hm, hrow, hkep, hown⟩ := hrel
        by_cases hlt : k < 40
        · obtain ⟨av, cv, hvv⟩ := slice_of_row hrow.out
          subst hvv
          have hsz := hkep.out.size
          have hkl : (k : Int) < 40 := by omega
          go_wp2_with (first
            | (at_builtin; refine wpList_append_bytes _ rfl _ _ rfl base (.slice av m cv) m ys rfl (hrow.out.alloc _) _ [85] rfl (BytesAt.of_row (base := 0) (bs := [85]) ⟨rfl, Or.inr ⟨wr.heap.size, 1, _, rfl, Nat.zero_le _, heap_alloc_new wr _, Nat.le_refl _, by decide, rfl, rfl⟩⟩) (by simp; omega) (by simp; omega) ?_; intro v2 w2 hr2 hg2 hloc2))
          go_roundw
          case rel =>
            refine ⟨k + 1, m + [(85 : UInt8)].length, _, by omega, by go_num, by simp; omega, hr2, ?_, ?_⟩
            · refine (hkep.out.alloc _).grown hg2 (fun j hj e => ?_)
              rcases hown.out with e9 | ⟨j9, e9, h9⟩
              · rw [← e9]; exact e
              · rw [e9] at e; cases e; omega
            · rcases hloc2 with e8 | e8
              · show _ ∨ _
                rw [e8]
                exact hown.out
              · exact Or.inr ⟨_, e8, by simp; omega⟩
          case measure => simp [intOf]; omega
        · have HK : Hid (Kept (fun k => (Value.slice a n c).ownBlock = some k) w wr) := hkep
          clear hrow hkep hown
          go_wp2
          go_end0
          exact ⟨rfl, HK.out⟩

def marks : List UInt8 := [201, 202, 203, 204]

set_option maxRecDepth 100000 in
set_option maxHeartbeats 1000000 in
theorem lendB_any (bv : Value) (bs : List UInt8) (w : World) (hb : BytesAt w bv bs) (hl : bs.length ≤ 1000000) :
    Calls Tryd.prog 22 #[bv] w fun e w' => ∃ g c, e = .returned (.slice (some ⟨g, 0, none⟩) bs.length c) ∧ w'.ownsRow w.heap.size 5 1 (.slice (some ⟨g, 0, none⟩) (bs.length + 4) c) (bs.length + 4) (byteVals (bs ++ marks)) ∧ Below w.heap.size w w' := by
  obtain ⟨ba, bc, rfl, ⟨hbc1, hbc2⟩, -⟩ := id hb
  have HB : Hid (∀ w1, Below w.heap.size w w1 → BytesAt w1 (.slice ba bs.length bc) bs) := fun w1 hb1 => hb.below hb1
  have HA : Hid (Below w.heap.size w (w.alloc (.cells #[] 5))) := (Below.refl _ w).alloc (Nat.le_refl _) _
  have HM : Hid ((w.alloc (.cells #[] 5)).ownsRow w.heap.size 5 1 (.slice (some ⟨w.heap.size, 0, none⟩) 0 0) 0 []) := ⟨rfl, Or.inr ⟨w.heap.size, 0, #[], rfl, Nat.le_refl _, heap_alloc_new w _, Nat.le_refl _, Nat.zero_le _, rfl, rfl⟩⟩
  have HX : Hid (∀ w1, (w.alloc (.cells #[] 5)).grownBy w1 (Value.slice (some ⟨w.heap.size, 0, none⟩) 0 0).ownBlock → Below w.heap.size w w1) := fun w1 hg1 => HA.out.grown hg1 (by simp) (fun k hk => by simp [Value.ownBlock] at hk; omega)
  clear hb
  go_enter Tryd.func22, Tryd.ntmps22
  go_wp2_with (first
    | (at_builtin; refine wpList_append_bytes _ rfl _ _ rfl w.heap.size _ 0 [] rfl HM.out _ bs rfl (HB.out _ HA.out) (by omega) (by simp) ?_; intro v1 w1 hr1 hg1 _; have hb1 := HX.out _ hg1; have hs1 := hb1.size; rw [Nat.zero_add, List.nil_append] at hr1; obtain ⟨a1, c1, rfl⟩ := slice_of_row hr1)
    | (at_builtin; refine wpList_append_bytes _ rfl _ _ rfl w.heap.size _ bs.length (byteVals bs) rfl (hr1.alloc _) _ marks rfl (BytesAt.of_row (base := 0) (bs := marks) ⟨rfl, Or.inr ⟨w1.heap.size, 4, _, rfl, Nat.zero_le _, heap_alloc_new w1 _, Nat.le_refl _, by decide, rfl, rfl⟩⟩) (by simp [marks]; omega) (by simp; omega) ?_; intro v2 w2 hr2 hg2 _; obtain ⟨a2, c2, rfl⟩ := slice_of_row hr2; obtain ⟨g2, rfl⟩ := row_some hr2 (by simp [marks]); obtain ⟨hc2, hc2'⟩ := row_room hr2; have hb2 := below_grown (hb1.alloc hs1 _) (row_lo hr1) hg2; have e4 : marks.length = 4 := rfl; rw [e4, ← byteVals_append] at hr2; rw [e4] at hc2 ⊢; have hc3 : bs.length ≤ c2 := (by omega); have hc4 : (bs.length : Int) ≤ (c2 : Int) := (by omega)))
  go_ret
  exact ⟨g2, c2, rfl, hr2, hb2⟩

set_option maxRecDepth 100000 in
set_option maxHeartbeats 1000000 in
theorem intactB_any (g c : Nat) (bv : Value) (bs : List UInt8) (base : Nat) (w : World) (ho : w.ownsRow base 5 1 (.slice (some ⟨g, 0, none⟩) (bs.length + 4) c) (bs.length + 4) (byteVals (bs ++ marks))) (hb : BytesAt w bv bs) (hl : bs.length ≤ 1000000) :
    Calls Tryd.prog 24 #[.slice (some ⟨g, 0, none⟩) bs.length c, bv] w fun e w' => e = .returned (.bool true) ∧ Kept (fun k => k = g) w w' := by
  obtain ⟨ba, bc, rfl, ⟨hbc1, hbc2⟩, -⟩ := id hb
  have hA : (convert 24 9 (.slice ba bs.length bc)).run Tryd.prog w = .ok (.string ⟨bs.toArray⟩) w := BytesAt.str hb
  have hlm : (bs ++ marks).length = bs.length + 4 := by simp [marks]
  have hB : (convert 24 9 (.slice (some ⟨g, 0, none⟩) (bs.length + 4) c)).run Tryd.prog w = .ok (.string ⟨(bs ++ marks).toArray⟩) w := BytesAt.str (BytesAt.of_row (base := base) (by rw [hlm]; exact ho))
  obtain ⟨hc1, hc2⟩ := row_room ho
  have hmx : c ≤ 9223372036854775807 := by unfold maxLen at hc2; omega
  have hc3 : ((bs.length + 4 : Nat) : Int) ≤ (c : Int) := by omega
  have hc4 : (bs.length : Int) + 4 ≤ (c : Int) := by omega
  have HR : Hid (∃ xs, w.ownsRow base 5 1 (.slice (some ⟨g, 0, none⟩) (bs.length + 4) c) (bs.length + 4) xs) := ⟨_, ho⟩
  clear ho hb
  go_enter Tryd.func24, Tryd.ntmps24
  go_wp2
  go_loopw [7] (fun i wr => ∃ (k : Nat) (xs : List Value), k ≤ bs.length + 4 ∧ i = .int .i64 k ∧ Hid (wr.ownsRow base 5 1 (.slice (some ⟨g, 0, none⟩) (bs.length + 4) c) (bs.length + 4) xs) ∧ Hid (Kept (fun k => k = g) w wr)) (fun i _ => bs.length + 4 - (intOf i).toNat)
  case atStart =>
    obtain ⟨xs, hxs⟩ := HR.out
    exact ⟨0, xs, Nat.zero_le _, rfl, hxs, Kept.refl _ _⟩
  case round =>
    clear HR
    obtain ⟨k, xs, hk, rfl, hrow, hkep⟩ := hrel
    by_cases hlt : k < bs.length + 4
    · obtain ⟨⟨u0, q0⟩, f0⟩ := row_cell hrow.out (j := k) (by omega)
      have hlt' : (k : Int) < (bs.length : Int) + 4 := by omega
      go_wp2
      go_roundw
      case rel => exact ⟨k + 1, _, by omega, by go_num, ownsRow_set hrow.out (g := g) rfl (i := k) _, hkep.out.setCell (p := ⟨g, k, none⟩) (fun _ => rfl) _⟩
      case measure => simp [intOf]; omega
    · have HK : Hid (Kept (fun k => k = g) w wr) := hkep
      have hge : ¬ (k : Int) < (bs.length : Int) + 4 := by omega
      clear hrow hkep
      go_wp2
      go_ret
      refine ⟨ret_b ?_, HK.out⟩
      rw [ByteArray.toList_eq]
      simp [marks]

end Go.Proofs.YtkmclgbiedbfpaaDoor
