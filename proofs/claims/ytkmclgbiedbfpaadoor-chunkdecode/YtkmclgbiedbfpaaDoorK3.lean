/- put: bits at a row's end. -/
import Derived.Test.YtkmclgbiedbfpaaDoorK2
import Derived.BigRegion
namespace Go.Proofs.YtkmclgbiedbfpaaDoor
open Go.RowKit Go.Maps

theorem goOn {S G : World → Prop} {W : World} (h : S W) (k : ∀ W1, S W1 → G W1) : G W := k W h
theorem cell_of_heap {w : World} {b i : Nat} {c : Array Value} {e : TypeId} {fr : Nat × Nat} (h : w.heap[b]? = some (.cells c e fr)) : w.cell? ⟨b, i, none⟩ = c[i]? := by simp [World.cell?, h]
theorem frozen_of_heap {w : World} {b i : Nat} {c : Array Value} {e : TypeId} (h : w.heap[b]? = some (.cells c e)) : w.frozen? ⟨b, i, none⟩ = false := by simp [World.frozen?, h]
/-- A Writer's cells. -/
def wrCells (cnt : Int) (v : Value) (sz t d va ld ws : Int) : Array Value := #[.int .i64 cnt, v, .int .i64 sz, .int .u64 t, .int .u64 d, .int .u64 va, .int .i64 ld, .int .i64 ws]
/-- A Writer of so many samples, with these bits, behind these samples. -/
def Wr (w : World) (base P : Nat) (cnt : Nat) (cs : List Bool) (s : An) : Prop :=
  base ≤ P ∧ base ≤ w.heap.size ∧ ∃ a c, w.heap[P]? = some (.cells (wrCells cnt (.slice a (pk cs).length c) cs.length s.t s.d s.v s.lead s.size) 67) ∧ w.ownsRow base 5 1 (.slice a (pk cs).length c) (pk cs).length (byteVals (pk cs))
theorem row_ne {w : World} {base n size P : Nat} {e e' : TypeId} {v : Value} {xs : List Value} {cs : Array Value} (ho : w.ownsRow base e size v n xs) (hp : w.heap[P]? = some (.cells cs e')) (he : e ≠ e') : v.ownBlock ≠ some P := by
  intro hv
  rcases ho.2 with ⟨rfl, _⟩ | ⟨g, cap, cur, rfl, _, hg, _⟩
  · cases hv
  · simp [Value.ownBlock] at hv
    subst hv
    rw [hp] at hg
    simp at hg
    exact he hg.2.symm
/-- What is neither P nor a row of bytes stays. -/
def Keeps (P : Nat) (w w' : World) : Prop := ∀ k cs t fr, k ≠ P → t ≠ 5 → w.heap[k]? = some (.cells cs t fr) → w'.heap[k]? = some (.cells cs t fr)
theorem Keeps.refl (P : Nat) (w : World) : Keeps P w w := fun _ _ _ _ _ _ h => h
theorem Keeps.trans {P : Nat} {a b c : World} (h : Keeps P a b) (k : Keeps P b c) : Keeps P a c := fun i cs t fr h1 h2 h3 => k i cs t fr h1 h2 (h i cs t fr h1 h2 h3)
theorem Keeps.below {P : Nat} {a b c : World} (h : Keeps P a b) (hb : Below b.heap.size b c) : Keeps P a c := fun i cs t fr h1 h2 h3 => by
  have := h i cs t fr h1 h2 h3
  exact (hb.block i (Array.getElem?_eq_some_iff.1 this).1).trans this
theorem Keeps.alloc {P : Nat} {a b : World} (h : Keeps P a b) (o : Obj) : Keeps P a (b.alloc o) := fun i cs t fr h1 h2 h3 => by
  have := h i cs t fr h1 h2 h3
  exact (Below.heap_alloc b o i (Array.getElem?_eq_some_iff.1 this).1).trans this
theorem Keeps.setP {P : Nat} {a b : World} (h : Keeps P a b) (i : Nat) (u : Value) : Keeps P a (b.setCell ⟨P, i, none⟩ u) := fun k cs t fr h1 h2 h3 =>
  (Below.heap_setCell b ⟨P, i, none⟩ u k h1).trans (h k cs t fr h1 h2 h3)
theorem Keeps.setRow {P g n c base : Nat} {a b : World} {xs : List Value} (h : Keeps P a b) (hr : b.ownsRow base 5 1 (.slice (some ⟨g, 0, none⟩) n c) n xs) (i : Nat) (u : Value) : Keeps P a (b.setCell ⟨g, i, none⟩ u) := fun k cs t fr h1 h2 h3 => by
  have h4 := h k cs t fr h1 h2 h3
  refine (Below.heap_setCell b ⟨g, i, none⟩ u k (fun e => ?_)).trans h4
  have e' : k = g := e
  subst e'
  rcases hr.2 with ⟨e1, _⟩ | ⟨g', cap, cur, e1, _, hg, _⟩
  · cases e1
  · cases e1
    rw [h4] at hg
    simp at hg
    exact h2 hg.2.1
theorem Keeps.grown {P n base : Nat} {a b c : World} {v : Value} {xs : List Value} (h : Keeps P a b) (hr : b.ownsRow base 5 1 v n xs) (hg : b.grownBy c v.ownBlock) : Keeps P a c := fun k cs t fr h1 h2 h3 => by
  have h4 := h k cs t fr h1 h2 h3
  refine (hg.block k (Array.getElem?_eq_some_iff.1 h4).1 (fun e => ?_)).trans h4
  rcases hr.2 with ⟨e1, _⟩ | ⟨g', cap, cur, e1, _, hg', _⟩
  · rw [e1] at e
    cases e
  · rw [e1] at e
    have : k = g' := by simpa [Value.ownBlock] using e
    subst this
    rw [h4] at hg'
    simp at hg'
    exact h2 hg'.2.1
theorem and_mask (n y : Nat) : y &&& (2 ^ n - 1) = y % 2 ^ n := Nat.and_two_pow_sub_one_eq_mod y n

theorem put_val (bb x r' nn fr : Nat) (hbb : bb < 256) (hx : x < 18446744073709551616) (hn : nn ≤ fr) (hf : fr ≤ 8) :
    bits .or .u8 (bb : Int) (bits .and .u64 ((x : Int) / 2 ^ r') (IntKind.u64.wrap (IntKind.u64.wrap (2 ^ nn) - 1)) % 256 * 2 ^ (fr - nn) % 256) = ((bb ||| ((x >>> r') % 2 ^ nn) <<< (fr - nn) : Nat) : Int) := by
  have hp : 2 ^ nn ≤ 2 ^ 8 := Nat.pow_le_pow_right (by decide) (show nn ≤ 8 by omega)
  have hp0 : 0 < 2 ^ nn := Nat.pow_pos (by decide)
  have h256 : (2 : Nat) ^ 8 = 256 := rfl
  have e1 : IntKind.u64.wrap (IntKind.u64.wrap (2 ^ nn) - 1) = ((2 ^ nn - 1 : Nat) : Int) := by
    have : (2 : Int) ^ nn = ((2 ^ nn : Nat) : Int) := by simp
    rw [this, IntKind.wrap_u64, IntKind.wrap_u64]
    omega
  have e2 : (x : Int) / 2 ^ r' = ((x >>> r' : Nat) : Int) := by
    rw [Nat.shiftRight_eq_div_pow]
    simp
  have hsh : x >>> r' < 18446744073709551616 := by
    rw [Nat.shiftRight_eq_div_pow]
    exact Nat.lt_of_le_of_lt (Nat.div_le_self _ _) hx
  rw [e1, e2, u64_and_nat _ _ hsh (by omega), Nat.and_two_pow_sub_one_eq_mod]
  have hm : (x >>> r') % 2 ^ nn < 2 ^ nn := Nat.mod_lt _ hp0
  have hs : ((x >>> r') % 2 ^ nn) * 2 ^ (fr - nn) < 256 := by
    have h1 : ((x >>> r') % 2 ^ nn) * 2 ^ (fr - nn) < 2 ^ nn * 2 ^ (fr - nn) := Nat.mul_lt_mul_of_pos_right hm (Nat.pow_pos (by decide))
    rw [← Nat.pow_add] at h1
    have h2 : 2 ^ (nn + (fr - nn)) ≤ 2 ^ 8 := Nat.pow_le_pow_right (by decide) (by omega)
    omega
  have e3 : (((x >>> r') % 2 ^ nn : Nat) : Int) % 256 * 2 ^ (fr - nn) % 256 = ((((x >>> r') % 2 ^ nn) <<< (fr - nn) : Nat) : Int) := by
    have h3 : (2 : Int) ^ (fr - nn) = ((2 ^ (fr - nn) : Nat) : Int) := by simp
    rw [Nat.shiftLeft_eq, h3]
    have h4 : (((x >>> r') % 2 ^ nn : Nat) : Int) % 256 = (((x >>> r') % 2 ^ nn : Nat) : Int) := by omega
    rw [h4, ← Int.natCast_mul]
    omega
  rw [e3, u8_or_nat _ _ hbb (by rw [Nat.shiftLeft_eq]; exact hs)]
theorem put_end {w wr : World} {base P cnt g c m q nn y : Nat} {ds : List Bool} {s : An} (V : Int) (hm : m = ds.length) (hq : q = m / 8) (h0 : 0 < nn) (hn : nn ≤ 8 - m % 8) (hV : V = ((byteOf ds q ||| (y % 2 ^ nn) <<< (8 - m % 8 - nn) : Nat) : Int))
    (hP : base ≤ P) (hbs : base ≤ wr.heap.size) (hh : wr.heap[P]? = some (.cells (wrCells cnt (.slice (some ⟨g, 0, none⟩) (q + 1) c) m s.t s.d s.v s.lead s.size) 67)) (hr : wr.ownsRow base 5 1 (.slice (some ⟨g, 0, none⟩) (q + 1) c) (q + 1) (byteVals (pkN (q + 1) ds))) (hb : Below base w wr) (hkp : Keeps P w wr) :
    Wr ((wr.setCell ⟨g, q, none⟩ (.int .u8 V)).setCell ⟨P, 2, none⟩ (.int .i64 ((m : Int) + nn))) base P cnt (ds ++ wb nn y) s ∧ Below base w ((wr.setCell ⟨g, q, none⟩ (.int .u8 V)).setCell ⟨P, 2, none⟩ (.int .i64 ((m : Int) + nn))) ∧ Keeps P w ((wr.setCell ⟨g, q, none⟩ (.int .u8 V)).setCell ⟨P, 2, none⟩ (.int .i64 ((m : Int) + nn))) := by
  have hgP : g ≠ P := fun e => row_ne hr hh (by decide) (by rw [e]; rfl)
  have hgb : base ≤ g := (World.ownsRow.lt hr g rfl).1
  have hpk : pk (ds ++ wb nn y) = pkN q ds ++ [UInt8.ofNat (byteOf ds q ||| (y % 2 ^ nn) <<< (8 - m % 8 - nn))] := by
    have := put_pk ds nn y h0 (by rw [← hm]; exact hn)
    rw [← hm, ← hq] at this
    exact this
  have hlen : (pk (ds ++ wb nn y)).length = q + 1 := by rw [hpk]; simp [pkN_length]
  have hlt : byteOf ds q ||| (y % 2 ^ nn) <<< (8 - m % 8 - nn) < 256 := by
    have := put_byte ds nn y (m % 8) (by rw [hm]) hn
    rw [← hm, ← hq] at this
    rw [← this]
    exact byteOf_lt _ _
  have hset : (byteVals (pkN (q + 1) ds)).set q (.int .u8 V) = byteVals (pk (ds ++ wb nn y)) := by
    rw [hpk, hV, pkN_succ]
    unfold byteVals
    rw [List.map_append, List.map_append, List.set_append_right _ _ (by simp [pkN_length])]
    simp only [List.length_map, pkN_length, Nat.sub_self, List.map_cons, List.map_nil, List.set_cons_zero, UInt8.toNat_ofNat']
    rw [Nat.mod_eq_of_lt hlt]
  have hr2 := ownsRow_set hr (g := g) rfl (i := q) (.int .u8 V)
  have hk : Kept (fun k => k = P) (wr.setCell ⟨g, q, none⟩ (.int .u8 V)) ((wr.setCell ⟨g, q, none⟩ (.int .u8 V)).setCell ⟨P, 2, none⟩ (.int .i64 ((m : Int) + nn))) := (Kept.refl (fun k => k = P) _).setCell (p := ⟨P, 2, none⟩) (fun _ => rfl) _
  have hr3 := hk.ownsRow hr2 (fun k hk e => by
    have : g = k := by simpa [Value.ownBlock] using hk
    exact hgP (this.trans e))
  have hh2 : (wr.setCell ⟨g, q, none⟩ (.int .u8 V)).heap[P]? = _ := (Below.heap_setCell wr ⟨g, q, none⟩ (.int .u8 V) P hgP.symm).trans hh
  refine ⟨⟨hP, ?_, some ⟨g, 0, none⟩, c, ?_, ?_⟩, ?_, (hkp.setRow hr _ _).setP _ _⟩
  · simpa [World.setCell] using hbs
  · rw [heap_setCell_same hh2, hlen]
    have : ((ds ++ wb nn y).length : Int) = (m : Int) + nn := by rw [List.length_append, wb_length, ← hm]; simp
    rw [this]
    rfl
  · rw [hlen, ← hset]
    exact hr3
  · exact (hb.setCell hgb _).setCell hP _

set_option maxRecDepth 100000 in
set_option maxHeartbeats 4000000 in
theorem put_any (base P cnt : Nat) (cs : List Bool) (s : An) (x width : Nat) (w : World) (h : Wr w base P cnt cs s) (hw : width ≤ 64) (hx : x < 18446744073709551616) (hl : cs.length + width ≤ 1000000) :
    Calls Tryd.prog 35 #[.pointer (some ⟨P, 1, none⟩), .int .u64 x, .int .i64 width] w fun e w' => e = .returned (.tuple #[]) ∧ Wr w' base P cnt (cs ++ wb width x) s ∧ Below base w w' ∧ Keeps P w w' := by
  have HW : Hid (Wr w base P cnt cs s) := h
  clear h
  go_enter Tryd.func35, Tryd.ntmps35
  go_wp2
  go_loopw [2] (fun i wr => ∃ (r : Nat) (ds : List Bool), r ≤ width ∧ i = .int .i64 r ∧ Hid (Wr wr base P cnt ds s ∧ ds ++ wb r x = cs ++ wb width x ∧ Below base w wr ∧ Keeps P w wr)) (fun i _ => (intOf i).toNat)
  case atStart => exact ⟨width, cs, Nat.le_refl _, rfl, HW.out, rfl, Below.refl _ _, Keeps.refl _ _⟩
  case round =>
    obtain ⟨r, ds, hr, rfl, hI⟩ := hrel
    by_cases h0 : r = 0
    · subst h0
      go_wp2
      go_end0
      obtain ⟨h1, h2, h3⟩ := hI.out
      rw [show wb 0 x = [] from rfl, List.append_nil] at h2
      rw [← h2]
      exact ⟨rfl, h1, h3⟩
    · obtain ⟨⟨hP, hbs, a, c, hh, hrow⟩, hcat, hbl, hkp⟩ := hI.out
      have HKP : Hid (Keeps P w wr) := hkp
      have hsz := hbl.size
      obtain ⟨m, hm⟩ : ∃ m, m = ds.length := ⟨_, rfl⟩
      obtain ⟨n, hn⟩ : ∃ n, n = (pk ds).length := ⟨_, rfl⟩
      obtain ⟨q, hq⟩ : ∃ q, q = m / 8 := ⟨_, rfl⟩
      have hml : m ≤ 1000000 := by
        have := congrArg List.length hcat
        simp [wb_length] at this
        omega
      have hpl := pk_length ds
      rw [← hm, ← hn] at hh hpl
      rw [← hn] at hrow
      have c1 : wr.cell? ⟨P, 1, none⟩ = some (.slice a n c) := by rw [cell_of_heap hh]; rfl
      have c2 : wr.cell? ⟨P, 2, none⟩ = some (.int .i64 m) := by rw [cell_of_heap hh]; rfl
      have f1 : wr.frozen? ⟨P, 1, none⟩ = false := frozen_of_heap hh
      have hrn := row_ne hrow hh (by decide)
      have HROW : Hid (wr.ownsRow base 5 1 (.slice a n c) n (byteVals (pk ds))) := hrow
      have HH : Hid (wr.heap[P]? = some (.cells (wrCells cnt (.slice a n c) m s.t s.d s.v s.lead s.size) 67)) := hh
      have HRN : Hid ((Value.slice a n c).ownBlock ≠ some P) := hrn
      have HBL : Hid (Below base w wr) := hbl
      have HCAT : Hid (ds ++ wb r x = cs ++ wb width x) := hcat
      have HMM : Hid (m = ds.length) := hm
      have HQ : Hid (q = m / 8) := hq
      have HN : Hid (n = (pk ds).length) := hn
      clear hI hcat hrow hh hbl hrn hm hn hkp
      obtain ⟨fr, hfr⟩ : ∃ fr, fr = 8 - m % 8 := ⟨_, rfl⟩
      obtain ⟨nn, hnn⟩ : ∃ nn, nn = min fr r := ⟨_, rfl⟩
      obtain ⟨r', hr'⟩ : ∃ r', r' = r - nn := ⟨_, rfl⟩
      have e1 : 8 - (m : Int) % 8 = (fr : Int) := by omega
      have e2 : min (fr : Int) (r : Int) = (nn : Int) := by omega
      have e3 : (r : Int) - (nn : Int) = (r' : Int) := by omega
      have E1 : Hid (8 - (m : Int) % 8 = (fr : Int)) := e1
      have E2 : Hid (min (fr : Int) (r : Int) = (nn : Int)) := e2
      have E3 : Hid ((r : Int) - (nn : Int) = (r' : Int)) := e3
      have HFR : Hid (fr = 8 - m % 8) := hfr
      have HNN : Hid (nn = min fr r) := hnn
      have HR' : Hid (r' = r - nn) := hr'
      have b1 : 1 ≤ fr ∧ fr ≤ 8 ∧ 1 ≤ nn ∧ nn ≤ fr ∧ r' < r := by omega
      clear e1 e2 e3 hfr hnn hr'
      by_cases h8 : m % 8 = 0
      · have hz : (m : Int) % 8 = 0 := by omega
        obtain rfl : n = q := by omega
        have HPK : Hid (pk ds ++ [0] = pkN (n + 1) ds) := by
          show _ = _
          rw [pk_whole ds (by rw [← HMM.out]; exact h8), pkN_succ, ← HMM.out, ← HQ.out, HQ.out, HMM.out, byteOf_end ds (by rw [← HMM.out]; exact h8)]
          rfl
        have hnl : n ≤ 1000000 := by omega
        clear hpl hq
        go_wp2_with (at_builtin; refine wpList_append_bytes _ rfl _ _ rfl base (.slice a n c) n (byteVals (pk ds)) rfl (HROW.out.alloc _) _ [0] rfl (BytesAt.of_row (base := 0) (bs := [0]) ⟨rfl, Or.inr ⟨wr.heap.size, 1, _, rfl, Nat.zero_le _, heap_alloc_new wr _, Nat.le_refl _, by decide, rfl, rfl⟩⟩) (show n + 1 ≤ _ by omega) (Nat.le_trans hbs (by simp)) ?_; intro v2 w2 hr2 hg2 hloc2; obtain ⟨a2, c2, rfl⟩ := slice_of_row hr2; obtain ⟨g2, rfl⟩ := row_some hr2 (by simp); have hh2 := (hg2.block P (by simp; have := (Array.getElem?_eq_some_iff.1 HH.out).1; omega) HRN.out.symm).trans ((Below.heap_alloc wr _ P (Array.getElem?_eq_some_iff.1 HH.out).1).trans HH.out); have f2 : w2.frozen? ⟨P, 1, none⟩ = false := frozen_of_heap hh2; have d1 : w2.cell? ⟨P, 1, none⟩ = some (.slice a n c) := (by rw [cell_of_heap hh2]; rfl); have d2 : w2.cell? ⟨P, 2, none⟩ = some (.int .i64 m) := (by rw [cell_of_heap hh2]; rfl); have HH2 : Hid _ := hh2; have HR2 : Hid (w2.ownsRow base 5 1 (.slice (some ⟨g2, 0, none⟩) (n + [(0 : UInt8)].length) c2) (n + [(0 : UInt8)].length) (byteVals (pk ds) ++ byteVals [0])) := hr2; have HG2 : Hid _ := hg2; clear hh2 hr2 hg2)
        have hr1 : (w2.setCell ⟨P, 1, none⟩ (.slice (some ⟨g2, 0, none⟩) (n + 1) c2)).ownsRow base 5 1 (.slice (some ⟨g2, 0, none⟩) (n + 1) c2) (n + 1) (byteVals (pkN (n + 1) ds)) := by
          rw [← HPK.out, byteVals_append]
          exact ((Kept.refl (fun k => k = P) w2).setCell (p := ⟨P, 1, none⟩) (fun _ => rfl) _).ownsRow HR2.out (fun k hk e => row_ne HR2.out HH2.out (by decide) (hk.trans (congrArg some e)))
        have hh1 : (w2.setCell ⟨P, 1, none⟩ (.slice (some ⟨g2, 0, none⟩) (n + 1) c2)).heap[P]? = some (.cells (wrCells cnt (.slice (some ⟨g2, 0, none⟩) (n + 1) c2) m s.t s.d s.v s.lead s.size) 67) := heap_setCell_same HH2.out _
        have hb1 : Below base w (w2.setCell ⟨P, 1, none⟩ (.slice (some ⟨g2, 0, none⟩) (n + 1) c2)) := ((HBL.out.alloc hbs _).grown HG2.out (Nat.le_trans hbs (by simp)) (fun j hj => (World.ownsRow.lt HROW.out j hj).1)).setCell hP _
        have hkp1 : Keeps P w (w2.setCell ⟨P, 1, none⟩ (.slice (some ⟨g2, 0, none⟩) (n + 1) c2)) := ((HKP.out.alloc _).grown (HROW.out.alloc _) HG2.out).setP _ _
        have hbs1 : base ≤ (w2.setCell ⟨P, 1, none⟩ (.slice (some ⟨g2, 0, none⟩) (n + 1) c2)).heap.size := by
          have h1 := HG2.out.size
          simp [World.setCell] at h1 ⊢
          omega
        clear c1 f1 HROW HH HBL HRN f2 d1 d2 HH2 HR2 HG2 hloc2 HN HKP
        have HKP : Hid _ := hkp1
        clear hkp1
        have hfr8 : fr = 8 := by have := HFR.out; omega
        subst hfr8
        simp only [show min (8 : Int) (r : Int) = (nn : Int) from E2.out, E3.out]
        generalize w2.setCell ⟨P, 1, none⟩ (.slice (some ⟨g2, 0, none⟩) (n + 1) c2) = W1 at *
        obtain ⟨g, hg⟩ : ∃ g, g = g2 := ⟨_, rfl⟩
        rw [← hg] at hr1 hh1 ⊢
        clear hg
        have k1 : W1.cell? ⟨P, 1, none⟩ = some (.slice (some ⟨g, 0, none⟩) (n + 1) c2) := by rw [cell_of_heap hh1]; rfl
        have k2 : W1.cell? ⟨P, 2, none⟩ = some (.int .i64 m) := by rw [cell_of_heap hh1]; rfl
        have hgP : g ≠ P := fun e => row_ne hr1 hh1 (by decide) (by rw [e]; rfl)
        have hPg : P ≠ g := hgP.symm
        have k3 : W1.cell? ⟨g, n, none⟩ = some (.int .u8 (byteOf ds n)) := by
          have h9 := hr1.cells (g := g) rfl n (.int .u8 (byteOf ds n)) (by
            unfold byteVals
            rw [pkN_succ, List.map_append, List.getElem?_append_right (by simp [pkN_length])]
            simp only [List.length_map, pkN_length, Nat.sub_self, List.map_cons, List.getElem?_cons_zero, UInt8.toNat_ofNat']
            rw [Nat.mod_eq_of_lt (byteOf_lt _ _)])
          rw [Addr.add_lit, Nat.zero_add] at h9
          exact h9
        have k4 : W1.frozen? ⟨g, n, none⟩ = false := (row_cell hr1 (j := n) (by omega)).2
        have k5 : W1.frozen? ⟨P, 2, none⟩ = false := frozen_of_heap hh1
        have HH1 : Hid (W1.heap[P]? = some (.cells (wrCells cnt (.slice (some ⟨g, 0, none⟩) (n + 1) c2) m s.t s.d s.v s.lead s.size) 67)) := hh1
        have HR1 : Hid (W1.ownsRow base 5 1 (.slice (some ⟨g, 0, none⟩) (n + 1) c2) (n + 1) (byteVals (pkN (n + 1) ds))) := hr1
        have HB1 : Hid (Below base w W1) := hb1
        have hbl := byteOf_lt ds n
        generalize hB : byteOf ds n = bb at *
        have HBB : Hid (byteOf ds n = bb) := hB
        clear hh1 hr1 hb1 hB
        go_region
        rw [put_val bb x r' nn 8 hbl hx (by omega) (by omega)]
        generalize hVV : ((bb ||| ((x >>> r') % 2 ^ nn) <<< (8 - nn) : Nat) : Int) = VV at *
        have HVV : Hid _ := hVV
        clear hVV
        go_wp2
        have n1 := HNN.out
        have n2 := HR'.out
        have n3 := HFR.out
        obtain ⟨p1, p2, p3⟩ := put_end (w := w) (nn := nn) (y := x >>> r') VV HMM.out HQ.out (by omega) (by omega) (by rw [← HVV.out, HBB.out, ← n3]) hP hbs1 HH1.out HR1.out HB1.out HKP.out
        refine ⟨⟨r', ds ++ wb nn (x >>> r'), by omega, rfl, p1, ?_, p2.drew, p3⟩, by simp [intOf]; omega⟩
        rw [List.append_assoc, ← wb_split, show nn + r' = r by omega, HCAT.out]
      · have hz : ((m : Int) % 8 == 0) = false := by simp; omega
        obtain rfl : n = q + 1 := by omega
        have hql : q ≤ 1000000 := by omega
        clear hpl hq
        obtain ⟨g, hg⟩ := row_some HROW.out (by omega)
        subst hg
        have HPK : Hid (pk ds = pkN (q + 1) ds) := by
          show _ = _
          rw [pk_part ds (by rw [← HMM.out]; exact h8), pkN_succ, ← HMM.out, ← HQ.out]
        go_wp2
        simp only [E1.out, E2.out, E3.out]
        have hh1 := HH.out
        have hr1 : wr.ownsRow base 5 1 (.slice (some ⟨g, 0, none⟩) (q + 1) c) (q + 1) (byteVals (pkN (q + 1) ds)) := by rw [← HPK.out]; exact HROW.out
        have hb1 := HBL.out
        clear c1 c2 f1 HROW HH HBL HRN
        have k1 : wr.cell? ⟨P, 1, none⟩ = some (.slice (some ⟨g, 0, none⟩) (q + 1) c) := by rw [cell_of_heap hh1]; rfl
        have k2 : wr.cell? ⟨P, 2, none⟩ = some (.int .i64 m) := by rw [cell_of_heap hh1]; rfl
        have hgP : g ≠ P := fun e => row_ne hr1 hh1 (by decide) (by rw [e]; rfl)
        have hPg : P ≠ g := hgP.symm
        have k3 : wr.cell? ⟨g, q, none⟩ = some (.int .u8 (byteOf ds q)) := by
          have h9 := hr1.cells (g := g) rfl q (.int .u8 (byteOf ds q)) (by
            unfold byteVals
            rw [pkN_succ, List.map_append, List.getElem?_append_right (by simp [pkN_length])]
            simp only [List.length_map, pkN_length, Nat.sub_self, List.map_cons, List.getElem?_cons_zero, UInt8.toNat_ofNat']
            rw [Nat.mod_eq_of_lt (byteOf_lt _ _)])
          rw [Addr.add_lit, Nat.zero_add] at h9
          exact h9
        have k4 : wr.frozen? ⟨g, q, none⟩ = false := (row_cell hr1 (j := q) (by omega)).2
        have k5 : wr.frozen? ⟨P, 2, none⟩ = false := frozen_of_heap hh1
        have HH1 : Hid (wr.heap[P]? = some (.cells (wrCells cnt (.slice (some ⟨g, 0, none⟩) (q + 1) c) m s.t s.d s.v s.lead s.size) 67)) := hh1
        have HR1 : Hid (wr.ownsRow base 5 1 (.slice (some ⟨g, 0, none⟩) (q + 1) c) (q + 1) (byteVals (pkN (q + 1) ds))) := hr1
        have HB1 : Hid (Below base w wr) := hb1
        have hbl := byteOf_lt ds q
        generalize hB : byteOf ds q = bb at *
        have HBB : Hid (byteOf ds q = bb) := hB
        clear hh1 hr1 hb1 hB
        go_region
        rw [put_val bb x r' nn fr hbl hx (by omega) (by omega)]
        generalize hVV : ((bb ||| ((x >>> r') % 2 ^ nn) <<< (fr - nn) : Nat) : Int) = VV at *
        have HVV : Hid _ := hVV
        clear hVV
        go_wp2
        have n1 := HNN.out
        have n2 := HR'.out
        have n3 := HFR.out
        obtain ⟨p1, p2, p3⟩ := put_end (w := w) (nn := nn) (y := x >>> r') VV HMM.out HQ.out (by omega) (by omega) (by rw [← HVV.out, HBB.out, ← n3]) hP hbs HH1.out HR1.out HB1.out HKP.out
        refine ⟨⟨r', ds ++ wb nn (x >>> r'), by omega, rfl, p1, ?_, p2.drew, p3⟩, by simp [intOf]; omega⟩
        rw [List.append_assoc, ← wb_split, show nn + r' = r by omega, HCAT.out]

end Go.Proofs.YtkmclgbiedbfpaaDoor
