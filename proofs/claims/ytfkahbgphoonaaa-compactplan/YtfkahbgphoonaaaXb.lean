/- firstLot. -/
import Derived.Test.YtfkahbgphoonaaaXa
import Derived.Test.YtfkahbgphoonaaaYj
namespace Go.Proofs.Ytfkahbgphoonaaa
open Go.RowKit Go.Shelf Go.Maps Go.Sort

/-- The first members of one span that are two or more. -/
def lotF : List Mb → List Mb
  | [] => []
  | x :: r => if 1 < (x :: r.takeWhile fun y => decide (y.1 = x.1)).length then x :: r.takeWhile fun y => decide (y.1 = x.1) else lotF r
theorem while_take {α : Type} (p : α → Bool) (r : List α) (m : Nat) (hm : m ≤ r.length) (hall : ∀ j (hj : j < r.length), j < m → p r[j] = true) (hend : ∀ hlt : m < r.length, p r[m] = false) : r.takeWhile p = r.take m := by
  induction r generalizing m with
  | nil => simp
  | cons a t ih =>
    cases m with
    | zero =>
      have h := hend (by simp)
      simp only [List.getElem_cons_zero] at h
      simp [h]
    | succ m =>
      have h := hall 0 (by simp) (by omega)
      simp only [List.getElem_cons_zero] at h
      rw [List.takeWhile_cons, if_pos h, List.take_succ_cons]
      congr 1
      refine ih m (by simpa using hm) (fun j hj hjm => ?_) (fun hlt => ?_)
      · have := hall (j + 1) (by simpa using hj) (by omega)
        simpa using this
      · have := hend (by simpa using hlt)
        simpa using this
theorem run_is (x : Mb) (r : List Mb) (n : Nat) (h1 : 1 ≤ n) (hn : n ≤ (x :: r).length) (hall : ∀ j (hj : j < (x :: r).length), j < n → ((x :: r)[j]).1 = x.1) (hend : ∀ hlt : n < (x :: r).length, ¬ ((x :: r)[n]).1 = x.1) : (x :: r.takeWhile fun y => decide (y.1 = x.1)) = (x :: r).take n := by
  obtain ⟨m, rfl⟩ : ∃ m, n = m + 1 := ⟨n - 1, by omega⟩
  rw [List.take_succ_cons]
  congr 1
  refine while_take _ r m (by simpa using hn) (fun j hj hjm => ?_) (fun hlt => ?_)
  · have := hall (j + 1) (by simpa using hj) (by omega)
    simpa using this
  · have := hend (by simpa using hlt)
    simpa using this
theorem lot_more (x : Mb) (r : List Mb) (n : Nat) (h1 : 1 < n) (hn : n ≤ (x :: r).length) (hrun : (x :: r.takeWhile fun y => decide (y.1 = x.1)) = (x :: r).take n) : lotF (x :: r) = (x :: r).take n := by
  unfold lotF
  rw [hrun, if_pos (by rw [List.length_take]; omega)]
theorem lot_less (x : Mb) (r : List Mb) (hrun : (x :: r.takeWhile fun y => decide (y.1 = x.1)) = (x :: r).take 1) : lotF (x :: r) = lotF r := by
  conv => lhs; unfold lotF
  rw [hrun, if_neg (by simp)]

theorem RowAt.take {w : World} {a : Option Addr} {k n c : Nat} {cs : List Value} (h : RowAt w (.slice a n c) k n cs) {m : Nat} (hm : m ≤ n) : RowAt w (.slice a m c) k m (cs.take (m * k)) := by
  obtain ⟨a', c', e, h1, h2, h3⟩ := h
  cases e
  refine ⟨_, _, rfl, ⟨by omega, h1.2⟩, ?_, fun j u hu => ?_⟩
  · rw [List.length_take, h2]
    exact Nat.min_eq_left (Nat.mul_le_mul_right k hm)
  · rw [List.getElem?_take] at hu
    split at hu
    · exact h3 _ _ hu
    · cases hu
theorem mbC_take (l : List Mb) (m : Nat) (hm : m ≤ l.length) : (mbC l).take (m * 5) = mbC (l.take m) := by
  conv => lhs; rw [← List.take_append_drop m l, mbC_append]
  rw [List.take_left' (by rw [mbC_length, List.length_take, Nat.min_eq_left hm])]
theorem MbAt.take {w : World} {a : Option Addr} {c : Nat} {l : List Mb} (h : MbAt w (.slice a l.length c) l) (m : Nat) (hm : m ≤ l.length) : MbAt w (.slice a m c) (l.take m) := by
  have h9 := RowAt.take h hm
  rw [mbC_take l m hm] at h9
  unfold MbAt
  rw [List.length_take, Nat.min_eq_left hm]
  exact h9
theorem MbAt.tail {w : World} {b o c : Nat} {x : Mb} {pt : List Mb} (h : MbAt w (.slice (some ⟨b, o, none⟩) (x :: pt).length c) (x :: pt)) : MbAt w (.slice (if c = 1 then some ⟨b, o, none⟩ else some ⟨b, o + 5, none⟩) pt.length (c - 1)) pt := by
  obtain ⟨_, _, e, h1, h2⟩ := RowAt.sub h
  cases e
  by_cases hc : c = 1
  · subst hc
    have : pt = [] := by
      cases pt with
      | nil => rfl
      | cons y t => simp at h1
    subst this
    exact ⟨_, _, rfl, ⟨Nat.le_refl _, Nat.zero_le _⟩, rfl, fun j u hu => by simp [mbC] at hu⟩
  · rw [if_neg hc]
    have h9 := RowAt.drop h (by simp)
    simp only [List.length_cons, Nat.add_sub_cancel] at h9
    exact h9

theorem lot_at (ps : List Mb) (h0 : 0 < ps.length) (n : Nat) (h1 : 1 ≤ n) (hn : n ≤ ps.length) (hall : ∀ j (hj : j < ps.length), j < n → (ps[j]).1 = ps[0].1) (hend : ∀ hlt : n < ps.length, ¬ (ps[n]).1 = ps[0].1) : (1 < n → lotF ps = ps.take n) ∧ (n = 1 → lotF ps = lotF ps.tail) := by
  cases ps with
  | nil => simp at h0
  | cons x r =>
    have hrun := run_is x r n h1 hn hall hend
    refine ⟨fun h => lot_more x r n h hn hrun, fun h => ?_⟩
    subst h
    exact lot_less x r hrun
theorem MbAt.tail' {w : World} {b o c : Nat} {ps : List Mb} (h : MbAt w (.slice (some ⟨b, o, none⟩) ps.length c) ps) (h0 : 0 < ps.length) : MbAt w (.slice (if c = 1 then some ⟨b, o, none⟩ else some ⟨b, o + 5, none⟩) ps.tail.length (c - 1)) ps.tail := by
  cases ps with
  | nil => simp at h0
  | cons x r => exact MbAt.tail h
def lenV : Value → Nat | .slice _ n _ => n | _ => 0

set_option maxRecDepth 100000 in
set_option maxHeartbeats 2000000 in
theorem firstLot_any (v : Value) (l : List Mb) (w : World) (h : MbAt w v l) (hl : l.length ≤ 100000) :
    Calls Try.prog 14 #[v] w fun e w' => ∃ a c, e = .returned (.slice a (lotF l).length c) ∧ w'.ownsRow w.heap.size 9 1 (.slice a (lotF l).length c) (lotF l).length (stC ((lotF l).map (·.2.nm))) ∧ Below w.heap.size w w' := by
  obtain ⟨a1, c1, rfl, -⟩ := id h
  have HL : Hid (∀ W, Below w.heap.size w W → MbAt W (.slice a1 l.length c1) l) := fun W hW => RowAt.below h hW
  have HNM : Hid (∀ W, Below w.heap.size w W → ∀ a c n (ps : List Mb), ps.length = n → MbAt W (.slice a n c) ps → n ≤ 100000 → Calls Try.prog 25 #[.slice a n c] W fun e w' => ∃ a' c', e = .returned (.slice a' n c') ∧ w'.ownsRow w.heap.size 9 1 (.slice a' n c') n (stC (ps.map (·.2.nm))) ∧ Below w.heap.size w w') := fun W hW a c n ps e hp hpl => by
    subst e
    refine (names_any (.slice a ps.length c) ps W hp hpl).mono ?_
    rintro e w' ⟨a', c', rfl, h1, h2⟩
    exact ⟨a', c', rfl, row_mono h1 hW.size, hW.trans (h2.mono hW.size)⟩
  clear h
  go_enter Try.func14, Try.ntmps14
  go_wp2
  go_loopw [0] (fun vl wr => ∃ (ps : List Mb) (a : Option Addr) (c : Nat), ps.length ≤ l.length ∧ vl = .slice a ps.length c ∧ Hid (lotF ps = lotF l ∧ ∀ W, Below w.heap.size w W → MbAt W (.slice a ps.length c) ps) ∧ Hid (Below w.heap.size w wr)) (fun vl _ => lenV vl)
  case atStart => exact ⟨l, a1, c1, Nat.le_refl _, rfl, ⟨rfl, HL.out⟩, Below.refl _ _⟩
  case round =>
    obtain ⟨ps, a, c, hpl, rfl, hinv, hbel⟩ := hrel
    by_cases hps : 0 < ps.length
    · obtain ⟨_, _, e9, hcl, hcm⟩ := RowAt.sub (hinv.out.2 w (Below.refl _ _))
      cases e9
      have hmx : (c : Int) ≤ 9223372036854775807 := by unfold maxLen at hcm; omega
      have hpos : (0 : Int) < ((ps.length : Nat) : Int) := by omega
      obtain ⟨b, o, e, hone⟩ := MbAt.one (hinv.out.2 w (Below.refl _ _)) 0 hps
      subst e
      obtain ⟨x, hx⟩ : ∃ x, x = ps[0].1 := ⟨_, rfl⟩
      have HONE : Hid (∀ W, Below w.heap.size w W → W.cell? ⟨b, o, none⟩ = some (.int .i64 x)) := fun W hW => by
        have h9 := (hone W hW).1
        rw [hx]
        simpa using h9
      have HX : Hid (x = ps[0].1) := hx
      clear hone hx
      go_wp2_with fail
      go_loopw [3] (fun vn wr => ∃ (n : Nat), 1 ≤ n ∧ n ≤ ps.length ∧ vn = .int .i64 n ∧ Hid (∀ j (hj : j < ps.length), j < n → (ps[j]).1 = x) ∧ Hid (Below w.heap.size w wr)) (fun vn _ => ps.length - (intOf vn).toNat)
      case atStart =>
        refine ⟨1, Nat.le_refl _, by omega, rfl, fun j hj h9 => ?_, hbel.out⟩
        obtain rfl : j = 0 := by omega
        exact HX.out.symm
      case round =>
        clear hbel
        obtain ⟨n, hn1, hnl, rfl, hall, hbel⟩ := hrel
        have hsw := hbel.out.size
        have q0 := HONE.out wr hbel.out
        have hbn := fun q => below_drewN (Below.refl wr.heap.size wr) q
        by_cases hlt : n < ps.length
        · obtain ⟨b', o', e, hone⟩ := MbAt.one (hinv.out.2 w (Below.refl _ _)) n hlt
          cases e
          have q1 := (hone wr hbel.out).1
          obtain ⟨y, hy⟩ : ∃ y, y = (ps[n]).1 := ⟨_, rfl⟩
          rw [← hy] at q1
          have hnli : (n : Int) < (ps.length : Int) := by omega
          clear hone
          by_cases heq : y = x
          · subst heq
            go_wp2_with fail
            go_quiet (fail)
            go_wp2_with fail
            refine ⟨⟨n + 1, by omega, by omega, by go_num, fun j hj h9 => ?_, hbel.out.trans ((hbn nq).mono hsw)⟩, by simp [intOf]; omega⟩
            by_cases hjn : j = n
            · subst hjn
              exact hy.symm
            · exact hall.out j hj (by omega)
          · have hd : decide (y = x) = false := by simp [heq]
            go_wp2_with fail
            go_quiet (fail)
            have HLA : Hid (_ ∧ _) := lot_at ps hps n hn1 hnl (fun j hj hjn => (hall.out j hj hjn).trans HX.out) (fun _ e => heq (by rw [hy, HX.out, e]))
            have HBN : Hid (Below w.heap.size w (wr.drewN nq)) := hbel.out.trans ((hbn nq).mono hsw)
            clear hbn
            by_cases hgt : 1 < n
            · have hgti : (1 : Int) < (n : Int) := by omega
              have hle9 : (n : Int) ≤ (c : Int) := by omega
              have hnm := HNM.out (wr.drewN nq) HBN.out (some ⟨b, o, none⟩) c n (ps.take n) (by rw [List.length_take]; omega) (MbAt.take (hinv.out.2 _ HBN.out) n hnl) (by omega)
              have HLE : Hid (lotF l = ps.take n) := hinv.out.1.symm.trans (HLA.out.1 hgt)
              clear HNM HLA
              go_wp2_with (go_at_call 25; refine hnm.mono ?_; clear hnm; rintro e w2 ⟨a5, c5, rfl, hr5, hb5⟩)
              go_ret
              have hl9 : (ps.take n).length = n := by rw [List.length_take]; omega
              rw [HLE.out, hl9]
              exact ⟨a5, c5, rfl, hr5, hb5⟩
            · obtain rfl : n = 1 := by omega
              have hc1 : (1 : Int) ≤ (c : Int) := by omega
              have hpi : (1 : Int) ≤ (ps.length : Int) := by omega
              go_wp2_with fail
              refine ⟨⟨ps.tail, if c = 1 then some ⟨b, o, none⟩ else some ⟨b, o + 5, none⟩, c - 1, by simp; omega, ?_, ⟨(HLA.out.2 rfl).symm.trans hinv.out.1, fun W hW => MbAt.tail' (hinv.out.2 W hW) hps⟩, HBN.out⟩, ?_⟩
              · rw [if_neg (by omega), List.length_tail]
              · show ps.length - 1 < ps.length; omega
        · have hnli : ¬ (n : Int) < (ps.length : Int) := by omega
          go_wp2_with fail
          go_quiet (fail)
          have HLA : Hid (_ ∧ _) := lot_at ps hps n hn1 hnl (fun j hj hjn => (hall.out j hj hjn).trans HX.out) (fun h9 => absurd h9 hlt)
          have HBN : Hid (Below w.heap.size w (wr.drewN nq)) := hbel.out.trans ((hbn nq).mono hsw)
          clear hbn
          by_cases hgt : 1 < n
          · have hgti : (1 : Int) < (n : Int) := by omega
            have hle9 : (n : Int) ≤ (c : Int) := by omega
            have hnm := HNM.out (wr.drewN nq) HBN.out (some ⟨b, o, none⟩) c n (ps.take n) (by rw [List.length_take]; omega) (MbAt.take (hinv.out.2 _ HBN.out) n hnl) (by omega)
            have HLE : Hid (lotF l = ps.take n) := hinv.out.1.symm.trans (HLA.out.1 hgt)
            clear HNM HLA
            go_wp2_with (go_at_call 25; refine hnm.mono ?_; clear hnm; rintro e w2 ⟨a5, c5, rfl, hr5, hb5⟩)
            go_ret
            have hl9 : (ps.take n).length = n := by rw [List.length_take]; omega
            rw [HLE.out, hl9]
            exact ⟨a5, c5, rfl, hr5, hb5⟩
          · obtain rfl : n = 1 := by omega
            have hc1 : (1 : Int) ≤ (c : Int) := by omega
            have hpi : (1 : Int) ≤ (ps.length : Int) := by omega
            go_wp2_with fail
            refine ⟨⟨ps.tail, if c = 1 then some ⟨b, o, none⟩ else some ⟨b, o + 5, none⟩, c - 1, by simp; omega, ?_, ⟨(HLA.out.2 rfl).symm.trans hinv.out.1, fun W hW => MbAt.tail' (hinv.out.2 W hW) hps⟩, HBN.out⟩, ?_⟩
            · rw [List.length_tail]
            · show ps.length - 1 < ps.length; omega
    · obtain rfl : ps = [] := List.eq_nil_of_length_eq_zero (by omega)
      dsimp only [List.length_nil] at *
      go_wp2_with fail
      go_ret
      have h9 := hinv.out.1
      refine ⟨none, 0, by rw [← h9]; rfl, ?_, hbel.out⟩
      rw [← h9]
      exact World.ownsRow_nil _ _ _ _

end Go.Proofs.Ytfkahbgphoonaaa
