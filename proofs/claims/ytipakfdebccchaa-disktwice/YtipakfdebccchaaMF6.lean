/- The statement's own helpers: texts and numbers alike, bytes and texts spoilt, lent and looked at again, numbers taken into a range. -/
import Derived.Test.YtipakfdebccchaaMF5
namespace Go.Proofs.Ytipakfdebccchaa
open Go.RowKit Go.Maps Go.Sort

theorem ret_int {a b : Int} (h : a = b) : Ending.returned (.int .i64 a) = .returned (.int .i64 b) := by rw [h]
theorem emod_tmod (n m : Int) : n % m = (n.tmod m) % m := by
  have h := Int.mul_tdiv_add_tmod n m
  conv => lhs; rw [← h, Int.add_comm]
  rw [Int.add_mul_emod_self_left]

set_option maxRecDepth 100000 in
set_option maxHeartbeats 1000000 in
theorem within_any (n m : Int) (w : World) (hm : 1 ≤ m) (hm' : m ≤ 1000000) (_hn : -9223372036854775808 ≤ n) (_hn' : n ≤ 9223372036854775807) :
    Calls Try.prog 17 #[.int .i64 n, .int .i64 m] w fun e w' => e = .returned (.int .i64 (n % m)) ∧ w' = w := by
  have hmz : m ≠ 0 := by omega
  have h1 : -m < Int.tmod n m := by
    have := Int.lt_tmod_of_pos n (show 0 < m by omega); omega
  have h2 : Int.tmod n m < m := Int.tmod_lt_of_pos n (by omega)
  by_cases h : Int.tmod n m < 0
  · go_enter Try.func17, Try.ntmps17
    go_wp2
    go_ret
    have e : n.tmod m + m = n % m := by
      have e2 := Int.add_mul_emod_self_left (n.tmod m) m 1
      rw [Int.mul_one] at e2
      rw [emod_tmod, ← e2]
      exact (Int.emod_eq_of_lt (by omega) (by omega)).symm
    exact ⟨ret_int e, rfl⟩
  · go_enter Try.func17, Try.ntmps17
    go_wp2
    go_ret
    have e : n.tmod m = n % m := by
      rw [emod_tmod]
      exact (Int.emod_eq_of_lt (by omega) (by omega)).symm
    exact ⟨ret_int e, rfl⟩

theorem drewN_drewN (w : World) (a b : Nat) : (w.drewN a).drewN b = w.drewN (a + b) := by
  induction b with
  | zero => rfl
  | succ b ih => show ((w.drewN a).drewN b).drew = _; rw [ih]; rfl

set_option maxRecDepth 100000 in
set_option maxHeartbeats 1000000 in
/-- Texts that are alike are. -/
theorem texts_any (v1 v2 : Value) (xs : List (List UInt8)) (w : World) (h1 : StrsAt w v1 xs) (h2 : StrsAt w v2 xs) : Calls Try.prog 14 #[v1, v2] w fun e w' => e = .returned (.bool true) ∧ ∃ q, w' = w.drewN q := by
  obtain ⟨a1, c1, rfl, l1, k1⟩ := h1
  obtain ⟨a2, c2, rfl, l2, k2⟩ := h2
  have H1 : Hid (∀ j (hj : j < xs.length), ∃ b o, a1 = some ⟨b, o, none⟩ ∧ b < w.heap.size ∧ w.cell? ⟨b, o + j, none⟩ = some (encStr xs[j])) := k1
  have H2 : Hid (∀ j (hj : j < xs.length), ∃ b o, a2 = some ⟨b, o, none⟩ ∧ b < w.heap.size ∧ w.cell? ⟨b, o + j, none⟩ = some (encStr xs[j])) := k2
  have hm : (xs.length : Int) ≤ 9223372036854775807 := by have := l1.1; have := l1.2; unfold maxLen at this; omega
  clear k1 k2 l1 l2
  go_enter Try.func14, Try.ntmps14
  go_wp2
  go_loopw [5] (fun i wr => ∃ k q : Nat, k ≤ xs.length ∧ i = .int .i64 k ∧ wr = w.drewN q) (fun i _ => xs.length - (intOf i).toNat)
  case atStart => exact ⟨0, 0, Nat.zero_le _, rfl, rfl⟩
  case round =>
    obtain ⟨k, q, hk, rfl, rfl⟩ := hrel
    by_cases hlt : k < xs.length
    · obtain ⟨b1, o1, rfl, _, e1⟩ := H1.out k hlt
      obtain ⟨b2, o2, rfl, _, e2⟩ := H2.out k hlt
      have y1 : (w.drewN q).cell? ⟨b1, o1 + k, none⟩ = some (.string ⟨xs[k].toArray⟩) := e1
      have y2 : (w.drewN q).cell? ⟨b2, o2 + k, none⟩ = some (.string ⟨xs[k].toArray⟩) := e2
      have hkl : (k : Int) < (xs.length : Int) := by omega
      have HQ : Hid (∀ m, (w.drewN q).drewN m = w.drewN (q + m)) := fun m => drewN_drewN w q m
      clear e1 e2
      generalize w.drewN q = wq at *
      generalize (ByteArray.mk xs[k].toArray) = tx at *
      go_wp2
      go_quiet (fail)
      go_wp2
      go_roundw
      case rel => exact ⟨k + 1, q + nq, by omega, by go_num, HQ.out nq⟩
      case measure => simp [intOf]; omega
    · go_wp2
      go_ret
      exact ⟨rfl, q, rfl⟩

set_option maxRecDepth 100000 in
set_option maxHeartbeats 1000000 in
theorem ints_any (v1 v2 : Value) (xs : List Int) (w : World) (h1 : IntsAt w v1 xs) (h2 : IntsAt w v2 xs) : Calls Try.prog 23 #[v1, v2] w fun e w' => e = .returned (.bool true) ∧ ∃ q, w' = w.drewN q := by
  obtain ⟨a1, c1, rfl, l1, k1⟩ := h1
  obtain ⟨a2, c2, rfl, l2, k2⟩ := h2
  have H1 : Hid (∀ j (hj : j < xs.length), ∃ b o, a1 = some ⟨b, o, none⟩ ∧ b < w.heap.size ∧ w.cell? ⟨b, o + j, none⟩ = some (.int .i64 xs[j])) := k1
  have H2 : Hid (∀ j (hj : j < xs.length), ∃ b o, a2 = some ⟨b, o, none⟩ ∧ b < w.heap.size ∧ w.cell? ⟨b, o + j, none⟩ = some (.int .i64 xs[j])) := k2
  have hm : (xs.length : Int) ≤ 9223372036854775807 := by have := l1.1; have := l1.2; unfold maxLen at this; omega
  clear k1 k2 l1 l2
  go_enter Try.func23, Try.ntmps23
  go_wp2
  go_loopw [5] (fun i wr => ∃ k q : Nat, k ≤ xs.length ∧ i = .int .i64 k ∧ wr = w.drewN q) (fun i _ => xs.length - (intOf i).toNat)
  case atStart => exact ⟨0, 0, Nat.zero_le _, rfl, rfl⟩
  case round =>
    obtain ⟨k, q, hk, rfl, rfl⟩ := hrel
    by_cases hlt : k < xs.length
    · obtain ⟨b1, o1, rfl, _, e1⟩ := H1.out k hlt
      obtain ⟨b2, o2, rfl, _, e2⟩ := H2.out k hlt
      have y1 : (w.drewN q).cell? ⟨b1, o1 + k, none⟩ = some (.int .i64 xs[k]) := e1
      have y2 : (w.drewN q).cell? ⟨b2, o2 + k, none⟩ = some (.int .i64 xs[k]) := e2
      have hkl : (k : Int) < (xs.length : Int) := by omega
      have HQ : Hid (∀ m, (w.drewN q).drewN m = w.drewN (q + m)) := fun m => drewN_drewN w q m
      clear e1 e2
      generalize w.drewN q = wq at *
      generalize xs[k] = tx at *
      go_wp2
      go_quiet (fail)
      go_wp2
      go_roundw
      case rel => exact ⟨k + 1, q + nq, by omega, by go_num, HQ.out nq⟩
      case measure => simp [intOf]; omega
    · go_wp2
      go_ret
      exact ⟨rfl, q, rfl⟩

theorem row_cell {w : World} {base n g c : Nat} {e : TypeId} {xs : List Value} (h : w.ownsRow base e 1 (.slice (some ⟨g, 0, none⟩) n c) n xs) {j : Nat} (hj : j < n) : (∃ u, w.cell? ⟨g, j, none⟩ = some u ∧ xs[j]? = some u) ∧ w.frozen? ⟨g, j, none⟩ = false := by
  have hl := h.1
  have hj' : j < xs.length := by omega
  have hc := h.cells (g := g) rfl j xs[j] (by simp [hj'])
  rw [Addr.add_lit, Nat.zero_add] at hc
  exact ⟨⟨_, hc, by simp [hj']⟩, row_frozen h rfl j⟩

theorem wpList_append_bytes4 (w : World) {ops : Array Oper} {rest : List Oper} {o : Oper} {a : Act} {Q : Exit → Act → World → Prop} (hgd : o.guard = none) (s x : Operand)
    (ho : o.op = .call { callee := .builtin .append, args := #[s, x], argTypes := #[31, 31] }) (base : Nat) (v : Value) (n : Nat) (xs : List Value) (hs : a.eval s = v) (hown : w.ownsRow base 5 1 v n xs)
    (xv : Value) (nw : List UInt8) (hx : a.eval x = xv) (hb : BytesAt w xv nw) (hl : n + nw.length ≤ 1000000000000) (hbase : base ≤ w.heap.size)
    (h : ∀ v' w', w'.ownsRow base 5 1 v' (n + nw.length) (xs ++ byteVals nw) → w.grownBy w' v.ownBlock → (v'.ownBlock = v.ownBlock ∨ v'.ownBlock = some w.heap.size) → wpList Try.prog ops Q rest (a.put o.dst v') w') :
    wpList Try.prog ops Q (o :: rest) a w := by
  refine wpList_plain hgd fun K hK => ?_
  obtain ⟨v', w', hr, h2, h3, h4⟩ := run_append_bytes w o.type base v n xs hown xv nw hb hl hbase
  unfold Oper.wp execOp
  simp only [ho, resolve, invoke, builtin, Sem.run_bind, Sem.run_pure, Result.andThen_ok, List.map_toArray, List.map_cons, List.map_nil, hs, hx, hr]
  exact hK _ _ (h v' w' h2 h3 h4)

def Nums (xs : List Value) : Prop := ∀ (j : Nat) (u : Value), xs[j]? = some u → ∃ n, u = Value.int .u8 n
theorem Nums.set {xs : List Value} (h : Nums xs) (i : Nat) (n : Int) : Nums (xs.set i (.int .u8 n)) := fun j u hu => by
  rw [List.getElem?_set] at hu
  split at hu
  · split at hu
    · cases hu; exact ⟨n, rfl⟩
    · cases hu
  · exact h j u hu
theorem nums_bytes (bs : List UInt8) : Nums (byteVals bs) := fun j u hu => by
  unfold byteVals at hu
  rw [List.getElem?_map] at hu
  cases h : bs[j]? with
  | none => rw [h] at hu; cases hu
  | some b => rw [h] at hu; cases hu; exact ⟨_, rfl⟩

set_option maxRecDepth 100000 in
set_option maxHeartbeats 2000000 in
theorem spoilB_any (base : Nat) (v : Value) (bs : List UInt8) (w : World) (h : w.ownsRow base 5 1 v bs.length (byteVals bs)) (hl : bs.length ≤ 10000000) (hb : base ≤ w.heap.size) :
    Calls Try.prog 32 #[v] w fun e w' => e = .returned (.tuple #[]) ∧ Kept (fun k => v.ownBlock = some k) w w' := by
  obtain ⟨a, c, rfl⟩ := slice_of_row h
  have HR : Hid (w.ownsRow base 5 1 (.slice a bs.length c) bs.length (byteVals bs) ∧ Nums (byteVals bs)) := ⟨h, nums_bytes bs⟩
  clear h
  generalize byteVals bs = xs at *
  generalize bs.length = n at *
  go_enter Try.func32, Try.ntmps32
  go_wp2
  go_loopw [2] (fun i wr => ∃ (k : Nat) (xs : List Value), k ≤ n ∧ i = .int .i64 k ∧ Hid (wr.ownsRow base 5 1 (.slice a n c) n xs ∧ Nums xs) ∧ Hid (Kept (fun k => (Value.slice a n c).ownBlock = some k) w wr)) (fun i _ => n - (intOf i).toNat)
  case atStart => exact ⟨0, xs, Nat.zero_le _, rfl, HR, Kept.refl _ _⟩
  case round =>
    obtain ⟨k, ys, hk, rfl, hrow, hkep⟩ := hrel
    by_cases hlt : k < n
    · obtain ⟨g, c', hgc⟩ := row_some hrow.out.1 (by omega)
      have e9 : a = some ⟨g, 0, none⟩ := by simp at hgc; exact hgc.1
      subst e9
      obtain ⟨⟨u, q0, hu⟩, f0⟩ := row_cell hrow.out.1 hlt
      obtain ⟨m, rfl⟩ := hrow.out.2 k u hu
      have hkl : (k : Int) < (n : Int) := by omega
      clear HR hgc hu
      go_wp2
      go_roundw
      case rel => exact ⟨k + 1, _, by omega, by go_num, ⟨ownsRow_set hrow.out.1 (g := g) rfl (i := k) (by have := hrow.out.1.1; omega) _, hrow.out.2.set k _⟩, hkep.out.setCell (p := ⟨g, k, none⟩) (fun _ => rfl) _⟩
      case measure => simp [intOf]; omega
    · clear HR
      have HR0 : Hid (wr.ownsRow base 5 1 (.slice a n c) n ys) := hrow.out.1
      clear hrow
      go_wp2
      go_loopw [0, 3] (fun vv i wr => ∃ (k m : Nat) (xs : List Value), k ≤ 40 ∧ i = .int .i64 k ∧ m ≤ 10000000 + k ∧ Hid (wr.ownsRow base 5 1 vv m xs) ∧ Hid (Kept (fun k => (Value.slice a n c).ownBlock = some k) w wr) ∧ Hid (vv.ownBlock = (Value.slice a n c).ownBlock ∨ ∃ j, vv.ownBlock = some j ∧ w.heap.size ≤ j)) (fun _ i _ => 40 - (intOf i).toNat)
      case atStart => exact ⟨0, n, ys, by omega, rfl, by omega, HR0, hkep, Or.inl rfl⟩
      case round =>
        clear HR0 hkep
        obtain ⟨k, m, ys, hk, rfl, hm, hrow, hkep, hown⟩ := hrel
        by_cases hlt : k < 40
        · obtain ⟨av, cv, hvv⟩ := slice_of_row hrow.out
          subst hvv
          have hsz := hkep.out.size
          have hkl : (k : Int) < 40 := by omega
          go_wp2_with (first
            | (at_builtin; refine wpList_append_bytes4 _ rfl _ _ rfl base (.slice av m cv) m ys rfl (hrow.out.alloc _) _ [85] rfl (BytesAt.of_row (base := 0) (bs := [85]) ⟨rfl, Or.inr ⟨wr.heap.size, 1, _, rfl, Nat.zero_le _, heap_alloc_new wr _, Nat.le_refl _, by decide, rfl, rfl⟩⟩) (by simp; omega) (by simp; omega) ?_; intro v2 w2 hr2 hg2 hloc2))
          go_roundw
          case rel =>
            refine ⟨k + 1, m + [(85 : UInt8)].length, _, by omega, by go_num, by simp; omega, hr2, ?_, ?_⟩
            · refine (hkep.out.alloc _).grown hg2 (fun j hj e => ?_)
              rcases hown.out with e9 | ⟨j9, e9, h9⟩
              · rw [← e9]; exact e
              · rw [e9] at e; cases e; omega
            · rcases hloc2 with e8 | e8
              · show _ ∨ _
                rw [e8]
                exact hown.out
              · exact Or.inr ⟨_, e8, by simp; omega⟩
          case measure => simp [intOf]; omega
        · have HK : Hid (Kept (fun k => (Value.slice a n c).ownBlock = some k) w wr) := hkep
          clear hrow hkep hown
          go_wp2
          go_end0
          exact ⟨rfl, HK.out⟩

set_option maxRecDepth 100000 in
set_option maxHeartbeats 2000000 in
theorem spoilT_any (base : Nat) (v : Value) (xs0 : List Value) (n : Nat) (w : World) (h : w.ownsRow base 9 1 v n xs0) (hl : n ≤ 100000) (hb : base ≤ w.heap.size) :
    Calls Try.prog 31 #[v] w fun e w' => e = .returned (.tuple #[]) ∧ Kept (fun k => v.ownBlock = some k) w w' := by
  obtain ⟨a, c, rfl⟩ := slice_of_row h
  have HR : Hid (w.ownsRow base 9 1 (.slice a n c) n xs0) := h
  obtain ⟨i0, hi0, hz0, hz1, hz2⟩ := info_parts info9
  clear h
  go_enter Try.func31, Try.ntmps31
  go_wp2
  go_loopw [2] (fun i wr => ∃ (k : Nat) (xs : List Value), k ≤ n ∧ i = .int .i64 k ∧ Hid (wr.ownsRow base 9 1 (.slice a n c) n xs) ∧ Hid (Kept (fun k => (Value.slice a n c).ownBlock = some k) w wr)) (fun i _ => n - (intOf i).toNat)
  case atStart => exact ⟨0, xs0, Nat.zero_le _, rfl, HR, Kept.refl _ _⟩
  case round =>
    obtain ⟨k, ys, hk, rfl, hrow, hkep⟩ := hrel
    by_cases hlt : k < n
    · obtain ⟨g, c', hgc⟩ := row_some hrow.out (by omega)
      have e9 : a = some ⟨g, 0, none⟩ := by simp at hgc; exact hgc.1
      subst e9
      obtain ⟨⟨u, q0, hu⟩, f0⟩ := row_cell hrow.out hlt
      have hkl : (k : Int) < (n : Int) := by omega
      clear HR hgc hu
      go_wp2
      go_roundw
      case rel => exact ⟨k + 1, _, by omega, by go_num, ownsRow_set hrow.out (g := g) rfl (i := k) (by have := hrow.out.1; omega) _, hkep.out.setCell (p := ⟨g, k, none⟩) (fun _ => rfl) _⟩
      case measure => simp [intOf]; omega
    · clear HR
      go_wp2
      go_loopw [0, 3] (fun vv i wr => ∃ (k m : Nat) (xs : List Value), k ≤ 10 ∧ i = .int .i64 k ∧ m ≤ 100000 + k ∧ Hid (wr.ownsRow base 9 1 vv m xs) ∧ Hid (Kept (fun k => (Value.slice a n c).ownBlock = some k) w wr) ∧ Hid (vv.ownBlock = (Value.slice a n c).ownBlock ∨ ∃ j, vv.ownBlock = some j ∧ w.heap.size ≤ j)) (fun _ i _ => 10 - (intOf i).toNat)
      case atStart => exact ⟨0, n, ys, by omega, rfl, by omega, hrow, hkep, Or.inl rfl⟩
      case round =>
        clear hrow hkep
        obtain ⟨k, m, ys, hk, rfl, hm, hrow, hkep, hown⟩ := hrel
        by_cases hlt : k < 10
        · obtain ⟨av, cv, hvv⟩ := slice_of_row hrow.out
          subst hvv
          have hsz := hkep.out.size
          have hkl : (k : Int) < 10 := by omega
          go_wp2_with (at_builtin; refine wpList_append_own_at _ rfl _ _ 45 rfl base 9 i0 _ 1 16 Try.underlying45 hi0 hz0 hz1 hz2 rfl (by decide) (.slice av m cv) m ys rfl (hrow.out.alloc _) ⟨wr.heap.size, 0, none⟩ 1 1 [.string ⟨#[103, 114, 111, 119, 110]⟩] rfl rfl (World.news_of_block (cs := #[.string ⟨#[103, 114, 111, 119, 110]⟩]) (t := 9) (fr := (0, 0)) (heap_alloc_new wr _)) (by simp [Value.oneCell']) (by unfold maxLen; omega) (by omega) (by simp; omega) ?_; intro v2 w2 hr2 hg2 hnil2 hloc2)
          go_roundw
          case rel =>
            refine ⟨k + 1, m + 1, _, by omega, by go_num, by omega, hr2, ?_, ?_⟩
            · refine (hkep.out.alloc _).grown hg2 (fun j hj e => ?_)
              rcases hown.out with e9 | ⟨j9, e9, h9⟩
              · rw [← e9]; exact e
              · rw [e9] at e; cases e; omega
            · rcases hloc2 with e8 | e8
              · show _ ∨ _
                rw [e8]
                exact hown.out
              · exact Or.inr ⟨_, e8, by simp; omega⟩
          case measure => simp [intOf]; omega
        · have HK : Hid (Kept (fun k => (Value.slice a n c).ownBlock = some k) w wr) := hkep
          clear hrow hkep hown
          go_wp2
          go_end0
          exact ⟨rfl, HK.out⟩

def marks : List UInt8 := [201, 202, 203, 204]

set_option maxRecDepth 100000 in
set_option maxHeartbeats 1000000 in
theorem lend_any (bv : Value) (bs : List UInt8) (w : World) (hb : BytesAt w bv bs) (hl : bs.length ≤ 1000000) :
    Calls Try.prog 50 #[bv] w fun e w' => ∃ g c, e = .returned (.slice (some ⟨g, 0, none⟩) bs.length c) ∧ w'.ownsRow w.heap.size 5 1 (.slice (some ⟨g, 0, none⟩) (bs.length + 4) c) (bs.length + 4) (byteVals (bs ++ marks)) ∧ Below w.heap.size w w' := by
  obtain ⟨ba, bc, rfl, hbc1, hbc2⟩ := hb.shape
  have HB : Hid (∀ w1, Below w.heap.size w w1 → BytesAt w1 (.slice ba bs.length bc) bs) := fun w1 hb1 => hb.below hb1
  have HA : Hid (Below w.heap.size w (w.alloc (.cells #[] 5))) := (Below.refl _ w).alloc (Nat.le_refl _) _
  have HM : Hid ((w.alloc (.cells #[] 5)).ownsRow w.heap.size 5 1 (.slice (some ⟨w.heap.size, 0, none⟩) 0 0) 0 []) := World.ownsRow_made w #[] 0 (Nat.le_refl _) (Nat.zero_le _) rfl
  have HX : Hid (∀ w1, (w.alloc (.cells #[] 5)).grownBy w1 (Value.slice (some ⟨w.heap.size, 0, none⟩) 0 0).ownBlock → Below w.heap.size w w1) := fun w1 hg1 => HA.out.grown hg1 (by simp) (fun k hk => by simp [Value.ownBlock] at hk; omega)
  clear hb
  go_enter Try.func50, Try.ntmps50
  go_wp2_with (first
    | (at_builtin; refine wpList_append_bytes4 _ rfl _ _ rfl w.heap.size _ 0 [] rfl HM.out _ bs rfl (HB.out _ HA.out) (by omega) (by simp) ?_; intro v1 w1 hr1 hg1 hl1; clear hl1; have hb1 := HX.out _ hg1; have hs1 := hb1.size; rw [Nat.zero_add, List.nil_append] at hr1; obtain ⟨a1, c1, rfl⟩ := slice_of_row hr1)
    | (at_builtin; refine wpList_append_bytes4 _ rfl _ _ rfl w.heap.size _ bs.length (byteVals bs) rfl (hr1.alloc _) _ marks rfl (Or.inr ⟨⟨w1.heap.size, 0, none⟩, 4, rfl, by decide, by decide, World.news_of_block (cs := #[.int .u8 201, .int .u8 202, .int .u8 203, .int .u8 204]) (t := 5) (fr := (0, 0)) (heap_alloc_new w1 _)⟩) (by simp [marks]; omega) (by simp; omega) ?_; intro v2 w2 hr2 hg2 hl2; clear hl2; obtain ⟨g2, c2, hv2⟩ := row_some hr2 (by simp [marks]); subst hv2; obtain ⟨hc2, hc2'⟩ := ownsRow_cap hr2; have hb2 := below_grown hb1 _ hr1 hg2; have e4 : marks.length = 4 := rfl; rw [e4, ← byteVals_append] at hr2; rw [e4] at hc2 ⊢; have hc3 : bs.length ≤ c2 := (by omega); have hc4 : (bs.length : Int) ≤ (c2 : Int) := (by omega)))
  go_ret
  exact ⟨g2, c2, rfl, hr2, hb2⟩

set_option maxRecDepth 100000 in
set_option maxHeartbeats 1000000 in
theorem intact_any (g c : Nat) (bv : Value) (bs : List UInt8) (base : Nat) (w : World) (ho : w.ownsRow base 5 1 (.slice (some ⟨g, 0, none⟩) (bs.length + 4) c) (bs.length + 4) (byteVals (bs ++ marks))) (hb : BytesAt w bv bs) (hl : bs.length ≤ 1000000) :
    Calls Try.prog 52 #[.slice (some ⟨g, 0, none⟩) bs.length c, bv] w fun e w' => e = .returned (.bool true) ∧ Kept (fun k => k = g) w w' := by
  obtain ⟨ba, bc, rfl, hbc1, hbc2⟩ := hb.shape
  have hA : (convert 31 9 (.slice ba bs.length bc)).run Try.prog w = .ok (.string ⟨bs.toArray⟩) w := BytesAt.str hb
  have hlm : (bs ++ marks).length = bs.length + 4 := by simp [marks]
  have hB : (convert 31 9 (.slice (some ⟨g, 0, none⟩) (bs.length + 4) c)).run Try.prog w = .ok (.string ⟨(bs ++ marks).toArray⟩) w := by
    have := BytesAt.str (BytesAt.of_row (w := w) (base := base) (v := .slice (some ⟨g, 0, none⟩) (bs.length + 4) c) (bs := bs ++ marks) (by rw [hlm]; exact ho))
    exact this
  obtain ⟨hc1, hc2⟩ := ownsRow_cap ho
  have hc3 : ((bs.length + 4 : Nat) : Int) ≤ (c : Int) := by omega
  have hc4 : (bs.length : Int) + 4 ≤ (c : Int) := by omega
  have HR : Hid (∃ xs, w.ownsRow base 5 1 (.slice (some ⟨g, 0, none⟩) (bs.length + 4) c) (bs.length + 4) xs) := ⟨_, ho⟩
  clear ho hb
  go_enter Try.func52, Try.ntmps52
  go_wp2
  go_loopw [7] (fun i wr => ∃ (k : Nat) (xs : List Value), k ≤ bs.length + 4 ∧ i = .int .i64 k ∧ Hid (wr.ownsRow base 5 1 (.slice (some ⟨g, 0, none⟩) (bs.length + 4) c) (bs.length + 4) xs) ∧ Hid (Kept (fun k => k = g) w wr)) (fun i _ => bs.length + 4 - (intOf i).toNat)
  case atStart =>
    obtain ⟨xs, hxs⟩ := HR.out
    exact ⟨0, xs, Nat.zero_le _, rfl, hxs, Kept.refl _ _⟩
  case round =>
    clear HR
    obtain ⟨k, xs, hk, rfl, hrow, hkep⟩ := hrel
    by_cases hlt : k < bs.length + 4
    · obtain ⟨⟨u0, q0, _⟩, f0⟩ := row_cell hrow.out hlt
      have hlt' : (k : Int) < (bs.length : Int) + 4 := by omega
      go_wp2
      go_roundw
      case rel => exact ⟨k + 1, _, by omega, by go_num, ownsRow_set hrow.out (g := g) rfl (i := k) (by have := hrow.out.1; omega) _, hkep.out.setCell (p := ⟨g, k, none⟩) (fun _ => rfl) _⟩
      case measure => simp [intOf]; omega
    · have HK : Hid (Kept (fun k => k = g) w wr) := hkep
      have hge : ¬ (k : Int) < (bs.length : Int) + 4 := by omega
      clear hrow hkep
      go_wp2
      go_ret
      refine ⟨ret_bool ?_, HK.out⟩
      rw [ByteArray.toList_eq]
      simp [marks]

end Go.Proofs.Ytipakfdebccchaa
