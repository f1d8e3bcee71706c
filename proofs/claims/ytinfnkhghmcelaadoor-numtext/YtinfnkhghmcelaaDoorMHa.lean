/- Texts that belong together. -/
import Derived.Test.YtinfnkhghmcelaaDoorN3
/- The document's naturals: to the base 10000, the lowest first. -/
namespace Go.Proofs.YtinfnkhghmcelaaDoor
open Go.RowKit Go.Maps

def i64s (ds : List Nat) : List Value := ds.map fun d => .int .i64 (d : Nat)
theorem i64s_append (a b : List Nat) : i64s (a ++ b) = i64s a ++ i64s b := by simp [i64s]
theorem infoI64 : (Tryd.prog.info? 3).map (fun i => (i.zero, i.size, i.bytes)) = some (some (.int .i64 0), 1, 8) := by kernel_rfl
/-- A row of one's own that holds these numbers. -/
def DRow (w : World) (base : Nat) (v : Value) (ds : List Nat) : Prop := w.ownsRow base 3 1 v ds.length (i64s ds)
/-- A slice that reads as these numbers. -/
def DAt (w : World) (v : Value) (ds : List Nat) : Prop := ∃ a c, v = .slice a ds.length c ∧ (ds.length ≤ c ∧ c ≤ maxLen) ∧ ∀ k (hk : k < ds.length), ∃ b o, a = some ⟨b, o, none⟩ ∧ b < w.heap.size ∧ w.cell? ⟨b, o + k, none⟩ = some (.int .i64 (ds[k] : Nat))
theorem DAt.one {w : World} {a : Option Addr} {c n : Nat} {ds : List Nat} (h : DAt w (.slice a n c) ds) (k : Nat) (hk : k < ds.length) {w' : World} (hb : Below w.heap.size w w') : ∃ b o, a = some ⟨b, o, none⟩ ∧ w'.cell? ⟨b, o + k, none⟩ = some (.int .i64 (ds[k] : Nat)) := by
  obtain ⟨a', c', e, -, hc⟩ := h
  cases e
  obtain ⟨b, o, rfl, hl, h1⟩ := hc k hk
  exact ⟨b, o, rfl, (hb.cell (p := ⟨b, o + k, none⟩) hl).trans h1⟩
theorem DAt.below {w w' : World} {v : Value} {ds : List Nat} (h : DAt w v ds) (hb : Below w.heap.size w w') : DAt w' v ds := by
  obtain ⟨a, c, e, hlc, hc⟩ := h
  refine ⟨a, c, e, hlc, fun k hk => ?_⟩
  obtain ⟨b, o, ea, hl, h1⟩ := hc k hk
  have := hb.size
  exact ⟨b, o, ea, by omega, (hb.cell (p := ⟨b, o + k, none⟩) hl).trans h1⟩
theorem DRow.below {w w' : World} {base : Nat} {v : Value} {ds : List Nat} (h : DRow w base v ds) (hb : Below w.heap.size w w') : DRow w' base v ds := row_below h hb
theorem DRow.at {w : World} {base : Nat} {v : Value} {ds : List Nat} (h : DRow w base v ds) : DAt w v ds := by
  rcases h.2 with ⟨e, h0⟩ | ⟨g, cap, cur, e, hg, hcur, hc1, hc2, _⟩
  · have : ds = [] := List.eq_nil_of_length_eq_zero h0
    subst this
    exact ⟨none, 0, e, ⟨Nat.zero_le _, Nat.zero_le _⟩, fun _ hk => absurd hk (Nat.not_lt_zero _)⟩
  · refine ⟨some ⟨g, 0, none⟩, cap, e, ⟨hc1, hc2⟩, fun k hk => ⟨g, 0, rfl, (Array.getElem?_eq_some_iff.1 hcur).1, ?_⟩⟩
    have := World.ownsRow.cells h (g := g) (by rw [e]; rfl) k (.int .i64 (ds[k] : Nat)) (by simp [i64s, hk])
    rw [Addr.add_lit] at this
    exact this
/-- append of one number. -/
theorem wpList_append_num (w : World) {ops : Array Oper} {rest : List Oper} {o : Oper} {a : Act} {Q : Exit → Act → World → Prop} (hgd : o.guard = none) (s x : Operand)
    (ho : o.op = .call { callee := .builtin .append, args := #[s, x], argTypes := #[53, 53] }) (base : Nat) (ao : Option Addr) (n co : Nat) (es : List Nat) (hs : a.eval s = .slice ao n co) (hrow : w.ownsRow base 3 1 (.slice ao n co) n (i64s es))
    (g : Nat) (z : Int) (y : Nat) (hzy : z = (y : Int)) (hx : a.eval x = .slice (some ⟨g, 0, none⟩) 1 1) (hg : w.heap[g]? = some (.cells #[.int .i64 z] 3 (0, 0))) (hl : n ≤ 100000) (hbase : base ≤ w.heap.size)
    (h : ∀ a' c' w', w'.ownsRow base 3 1 (.slice a' (n + 1) c') (n + 1) (i64s (es ++ [y])) → w.grownBy w' (Value.slice ao n co).ownBlock → wpList Tryd.prog ops Q rest (a.put o.dst (.slice a' (n + 1) c')) w') : wpList Tryd.prog ops Q (o :: rest) a w := by
  subst hzy
  obtain ⟨i0, hi0, hz0, hz1, hz2⟩ := info_parts infoI64
  refine wpList_append_own_at w hgd s x 53 ho base 3 i0 _ 1 8 Tryd.underlying53 hi0 hz0 hz1 hz2 rfl (by decide) (.slice ao n co) n (i64s es) hs hrow ⟨g, 0, none⟩ 1 1 [.int .i64 (y : Nat)] hx rfl (World.news_of_block (cs := #[.int .i64 (y : Nat)]) (t := 3) (fr := (0, 0)) hg) (by simp [Value.oneCell']) (by unfold maxLen; omega) (by omega) hbase ?_
  intro v1 w1 hr1 hg1 hnil1 hloc1
  obtain ⟨a1, c1, rfl⟩ := slice_of_row hr1
  refine h a1 c1 w1 ?_ hg1
  rw [i64s_append]
  exact hr1
/-- The digits of a number to the base 10000. -/
def digQ (n : Nat) : List Nat := if h : n = 0 then [] else n % 10000 :: digQ (n / 10000)
termination_by n
decreasing_by omega
def valQ : List Nat → Nat
  | [] => 0
  | d :: t => d + 10000 * valQ t
def okQ (ds : List Nat) : Prop := (∀ d ∈ ds, d < 10000) ∧ ds.getLast? ≠ some 0
/-- Digits times a small number, and more. -/
def tmQ (k : Nat) : List Nat → Nat → List Nat
  | [], c => digQ c
  | d :: t, c => (d * k + c) % 10000 :: tmQ k t ((d * k + c) / 10000)
theorem digQ_zero : digQ 0 = [] := by rw [digQ, dif_pos rfl]
theorem digQ_pos {n : Nat} (h : 0 < n) : digQ n = n % 10000 :: digQ (n / 10000) := by rw [digQ, dif_neg (by omega)]
theorem valQ_dig : ∀ (k n : Nat), n ≤ k → valQ (digQ n) = n
  | k, n, h => by
    by_cases h0 : n = 0
    · subst h0; rw [digQ_zero]; rfl
    · cases k with
      | zero => omega
      | succ k =>
        rw [digQ_pos (by omega), valQ, valQ_dig k (n / 10000) (by omega)]
        omega
theorem digQ_len : ∀ (j c : Nat), c < 10000 ^ j → (digQ c).length ≤ j
  | 0, c, h => by
    have : c = 0 := by simpa using h
    subst this
    rw [digQ_zero]
    simp
  | j + 1, c, h => by
    by_cases h0 : c = 0
    · subst h0; rw [digQ_zero]; simp
    · rw [digQ_pos (by omega), List.length_cons]
      have := digQ_len j (c / 10000) (by rw [Nat.pow_succ] at h; omega)
      omega
theorem tmQ_len {k : Nat} (hk : k ≤ 10000) : ∀ (ds : List Nat) (c : Nat), (∀ d ∈ ds, d < 10000) → c ≤ 4611686018427387904 → (tmQ k ds c).length ≤ ds.length + 5
  | [], c, _, hc => by
    rw [tmQ]
    have := digQ_len 5 c (by omega)
    simpa using this
  | d :: t, c, hd, hc => by
    rw [tmQ, List.length_cons, List.length_cons]
    have h1 : d * k ≤ 10000 * 10000 := Nat.mul_le_mul (Nat.le_of_lt (hd d (by simp))) hk
    have := tmQ_len hk t ((d * k + c) / 10000) (fun x hx => hd x (by simp [hx])) (by omega)
    omega
theorem tmQ_drop {k : Nat} {ds : List Nat} {i c : Nat} (hi : i < ds.length) : tmQ k (ds.drop i) c = (ds[i] * k + c) % 10000 :: tmQ k (ds.drop (i + 1)) ((ds[i] * k + c) / 10000) := by
  rw [List.drop_eq_getElem_cons hi, tmQ]
theorem digQ_lt : ∀ (k n : Nat), n ≤ k → ∀ d ∈ digQ n, d < 10000
  | k, n, h, d, hd => by
    by_cases h0 : n = 0
    · subst h0; rw [digQ_zero] at hd; simp at hd
    · cases k with
      | zero => omega
      | succ k =>
        rw [digQ_pos (by omega)] at hd
        rcases List.mem_cons.1 hd with rfl | h1
        · omega
        · exact digQ_lt k (n / 10000) (by omega) d h1
theorem tmQ_lt (k : Nat) : ∀ (ds : List Nat) (c : Nat), ∀ d ∈ tmQ k ds c, d < 10000
  | [], c, d, hd => digQ_lt c c (Nat.le_refl _) d hd
  | x :: t, c, d, hd => by
    rw [tmQ] at hd
    rcases List.mem_cons.1 hd with rfl | h1
    · omega
    · exact tmQ_lt k t _ d h1
theorem valQ_tm (k : Nat) : ∀ (ds : List Nat) (c : Nat), valQ (tmQ k ds c) = valQ ds * k + c
  | [], c => by rw [tmQ, valQ_dig c c (Nat.le_refl _)]; simp [valQ]
  | d :: t, c => by
    rw [tmQ, valQ, valQ, valQ_tm k t, Nat.add_mul, Nat.mul_add, Nat.mul_assoc]
    omega
end Go.Proofs.YtinfnkhghmcelaaDoor

/- The document's naturals: times a small number. -/
namespace Go.Proofs.YtinfnkhghmcelaaDoor
open Go.RowKit Go.Maps

set_option maxRecDepth 100000 in
set_option maxHeartbeats 400000 in
theorem refTimes_any (ds : List Nat) (a : Option Addr) (c k more : Nat) (w : World) (h : DAt w (.slice a ds.length c) ds) (hd : ∀ d ∈ ds, d < 10000) (hk : k ≤ 10000) (hm : more ≤ 4611686018427387904) (hl : ds.length ≤ 50000) :
    Calls Tryd.prog 27 #[.slice a ds.length c, .int .i64 k, .int .i64 more] w fun e w' => ∃ a' c', e = .returned (.slice a' (tmQ k ds more).length c') ∧ DRow w' w.heap.size (.slice a' (tmQ k ds more).length c') (tmQ k ds more) ∧ Below w.heap.size w w' := by
  have HA : Hid (DAt w (.slice a ds.length c) ds) := h
  have HD : Hid (∀ d ∈ ds, d < 10000) := hd
  have HTL : Hid ((tmQ k ds more).length ≤ ds.length + 5) := tmQ_len hk ds more hd hm
  obtain ⟨R, hR⟩ : ∃ R, R = tmQ k ds more := ⟨_, rfl⟩
  rw [← hR] at HTL ⊢
  have HR : Hid (R = tmQ k ds more) := hR
  clear h hd hR
  go_enter Tryd.func27, Tryd.ntmps27
  go_wp2
  go_loopw [7, 8, 9] (fun sv cv iv wr => ∃ (i : Nat) (rs : List Nat) (x : Nat) (ao : Option Addr) (co : Nat), i ≤ ds.length ∧ iv = .int .i64 i ∧ cv = .int .i64 x ∧ x ≤ 4611686018427387904 ∧ sv = .slice ao i co ∧ Hid (rs.length = i ∧ wr.ownsRow w.heap.size 3 1 (.slice ao i co) i (i64s rs) ∧ rs ++ tmQ k (ds.drop i) x = R ∧ Below w.heap.size w wr)) (fun _ _ iv _ => ds.length - (intOf iv).toNat)
  case atStart => exact ⟨0, [], more, none, 0, Nat.zero_le _, rfl, rfl, hm, rfl, rfl, World.ownsRow_nil _ _ _ _, by rw [HR.out]; rfl, Below.refl _ _⟩
  case round =>
    obtain ⟨i, rs, x, ao, co, hi, rfl, rfl, hx, rfl, hI⟩ := hrel
    obtain ⟨hrl, hrow, heq, hbl⟩ := hI.out
    have HRW : Hid (wr.ownsRow w.heap.size 3 1 (.slice ao i co) i (i64s rs)) := hrow
    have HBL : Hid (Below w.heap.size w wr) := hbl
    have hsz := hbl.size
    by_cases hlt : i < ds.length
    · obtain ⟨b1, o1, rfl, hc1⟩ := HA.out.one i hlt hbl
      rw [tmQ_drop hlt] at heq
      have hdl : ds[i] < 10000 := HD.out _ (List.getElem_mem hlt)
      obtain ⟨P, hP⟩ : ∃ P, P = ds[i] * k := ⟨_, rfl⟩
      have hPb : P ≤ 100000000 := by rw [hP]; exact Nat.mul_le_mul (Nat.le_of_lt hdl) hk
      have hPi : ((ds[i] : Nat) : Int) * (k : Int) = (P : Int) := by rw [hP, Int.natCast_mul]
      rw [← hP] at heq
      have HEQ : Hid ((rs ++ [(P + x) % 10000]) ++ tmQ k (ds.drop (i + 1)) ((P + x) / 10000) = R) := by show _ = _; rw [← heq]; simp
      have HL : Hid ((rs ++ [(P + x) % 10000]).length = i + 1) := by show _ = _; simp [hrl]
      clear hI hrow heq hbl hrl hP
      generalize ds[i] = d at *
      go_wp2_with (at_builtin; refine wpList_append_num _ rfl _ _ rfl w.heap.size ao i co rs rfl (World.ownsRow.alloc HRW.out _) wr.heap.size (((P : Int) + x) % 10000) ((P + x) % 10000) (by omega) rfl (heap_alloc_new wr _) (by omega) (by simp; omega) ?_; intro a3 c3 w3 hr3 hg3)
      go_roundw
      case rel =>
        refine ⟨i + 1, rs ++ [(P + x) % 10000], (P + x) / 10000, a3, c3, by omega, by go_num, by first | (congr 1; omega) | congr 1, by omega, rfl, HL.out, hr3, HEQ.out, ?_⟩
        exact (HBL.out.alloc hsz _).grown hg3 (by simp; omega) (fun j hj => (HRW.out.lt j hj).1)
      case measure => simp [intOf]; omega
    · obtain rfl : i = ds.length := by omega
      rw [List.drop_length, tmQ] at heq
      have HEQ : Hid (rs ++ digQ x = R) := heq
      have HRL : Hid (rs.length = ds.length) := hrl
      clear hI hrow heq hbl hrl hlt
      go_wp2
      go_loopw [7, 8] (fun sv cv wu => ∃ (n : Nat) (rs : List Nat) (x : Nat) (ao : Option Addr) (co : Nat), n ≤ 100000 ∧ cv = .int .i64 x ∧ x ≤ 4611686018427387904 ∧ sv = .slice ao n co ∧ Hid (rs.length = n ∧ wu.ownsRow w.heap.size 3 1 (.slice ao n co) n (i64s rs) ∧ rs ++ digQ x = R ∧ Below w.heap.size w wu)) (fun _ cv _ => (intOf cv).toNat)
      case atStart => exact ⟨ds.length, rs, x, ao, co, by omega, rfl, hx, rfl, HRL.out, HRW.out, HEQ.out, HBL.out⟩
      case round =>
        clear HRW HBL HEQ HRL hsz hx
        obtain ⟨n, rs, x, ao, co, hn, rfl, hx, rfl, hI⟩ := hrel
        obtain ⟨hrl, hrow, heq, hbl⟩ := hI.out
        have HRW : Hid (wr.ownsRow w.heap.size 3 1 (.slice ao n co) n (i64s rs)) := hrow
        have HBL : Hid (Below w.heap.size w wr) := hbl
        have hsz := hbl.size
        by_cases hpos : 0 < x
        · have hxi : (0 : Int) < x := by omega
          rw [digQ_pos hpos] at heq
          have hTL := HTL.out
          have hnb : n + 1 ≤ ds.length + 5 := by
            rw [← heq, List.length_append, List.length_cons, hrl] at hTL
            omega
          have HEQ : Hid ((rs ++ [x % 10000]) ++ digQ (x / 10000) = R) := by show _ = _; rw [← heq]; simp
          have HL : Hid ((rs ++ [x % 10000]).length = n + 1) := by show _ = _; simp [hrl]
          clear hI hrow heq hbl hrl hTL
          go_wp2_with (at_builtin; refine wpList_append_num _ rfl _ _ rfl w.heap.size ao n co rs rfl (World.ownsRow.alloc HRW.out _) wr.heap.size ((x : Int) % 10000) (x % 10000) (by omega) rfl (heap_alloc_new wr _) (by omega) (by simp; omega) ?_; intro a3 c3 w3 hr3 hg3)
          go_roundw
          case rel =>
            refine ⟨n + 1, rs ++ [x % 10000], x / 10000, a3, c3, by omega, by first | (congr 1; omega) | congr 1, by omega, rfl, HL.out, hr3, HEQ.out, ?_⟩
            exact (HBL.out.alloc hsz _).grown hg3 (by simp; omega) (fun j hj => (HRW.out.lt j hj).1)
          case measure => simp [intOf]; omega
        · obtain rfl : x = 0 := by omega
          rw [digQ_zero, List.append_nil] at heq
          subst heq
          subst hrl
          clear hI hrow hbl
          go_wp2
          go_ret
          exact ⟨_, _, rfl, HRW.out, HBL.out⟩
end Go.Proofs.YtinfnkhghmcelaaDoor
