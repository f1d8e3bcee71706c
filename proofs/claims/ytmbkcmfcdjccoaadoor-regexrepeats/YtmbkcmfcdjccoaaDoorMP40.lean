/- Texts that belong together. -/
import Derived.Test.YtmbkcmfcdjccoaaDoorMP38
/- Compile, of any text. -/
namespace Go.Proofs.YtmbkcmfcdjccoaaDoor
open Go.RowKit Go.Maps

theorem PtQ.belowQ {w W1 W : World} {s : ByteArray} {R : Pt Nd} {x : Option Addr} {o : Obj} (hW : W1 = w.alloc o) (h : PtQ W1 w.heap.size s R x W) : Below w.heap.size w W := by
  cases R with
  | no q => obtain ⟨g, h2⟩ := h; exact h2.belowW hW
  | yes y q g => obtain ⟨b, _, h2, _⟩ := h; exact h2.belowW hW

set_option maxRecDepth 100000 in
set_option maxHeartbeats 800000 in
theorem compile_large (s : ByteArray) (w : World) (hs : 256 < s.size) :
    Calls Tryd.prog 10 #[.string s] w fun e w' => CmP w .large e w' := by
  have hsz : decide ((256 : Int) < s.size) = true := decide_eq_true (by omega)
  go_enter Tryd.func10, Tryd.ntmps10
  go_wp2
  go_ret3
  exact ⟨Below.refl _ _, rfl⟩

set_option maxRecDepth 100000 in
set_option maxHeartbeats 800000 in
theorem compile_no (B : Nat) (s : ByteArray) (w : World) (hE : Env8 w B) (hB : B ≤ w.heap.size) (hs : s.size ≤ 256) (p : Nat) (hr : readS s = .no p) :
    Calls Tryd.prog 10 #[.string s] w fun e w' => CmP w (.no p) e w' := by
  have hrd := read_is hE hB hs
  rw [hr] at hrd
  have HRD : Hid (∀ W, W = w.alloc (.cells #[.string s, .int .i64 0, .int .i64 0] 58) → Calls Tryd.prog 25 #[.pointer (some ⟨w.heap.size, 0, none⟩)] W fun e w' => ∃ a, e = .returned (.tuple #[.pointer a, .bool false]) ∧ ∃ g, RdS W w.heap.size s g w' p) := hrd.out
  clear hrd hr hE
  have hsz : decide ((256 : Int) < s.size) = false := decide_eq_false (by omega)
  go_enter Tryd.func10, Tryd.ntmps10
  go_wp2_with (go_at_call 25; refine (HRD.out _ rfl).mono ?_; clear HRD; rintro e w2 ⟨a, rfl, g, hl⟩; have c1 := hl.rd.c1; have HB : Hid (Below w.heap.size w w2) := hl.belowW rfl; clear hl)
  go_quiet (fail)
  go_wp2
  go_ret3
  exact ⟨below_drewN HB.out _, rfl⟩

set_option maxRecDepth 100000 in
set_option maxHeartbeats 800000 in
theorem compile_rest (B : Nat) (s : ByteArray) (w : World) (hE : Env8 w B) (hB : B ≤ w.heap.size) (hs : s.size ≤ 256) (x : Nd) (p g : Nat) (hr : readS s = .yes x p g) (hps : p < s.size) :
    Calls Tryd.prog 10 #[.string s] w fun e w' => CmP w (.no p) e w' := by
  have hrd := read_is hE hB hs
  rw [hr] at hrd
  have HRD : Hid (∀ W, W = w.alloc (.cells #[.string s, .int .i64 0, .int .i64 0] 58) → Calls Tryd.prog 25 #[.pointer (some ⟨w.heap.size, 0, none⟩)] W fun e w' => ∃ a, e = .returned (.tuple #[.pointer a, .bool true]) ∧ ∃ b, a = some ⟨b, 0, none⟩ ∧ RdS W w.heap.size s g w' p ∧ NdAt w' (Fresh W.heap.size w'.heap.size) x b) := hrd.out
  clear hrd hr hE
  have hsz : decide ((256 : Int) < s.size) = false := decide_eq_false (by omega)
  have hpz : (p : Int) < s.size := by omega
  go_enter Tryd.func10, Tryd.ntmps10
  go_wp2_with (go_at_call 25; refine (HRD.out _ rfl).mono ?_; clear HRD; rintro e w2 ⟨a, rfl, b, rfl, hl, hnd⟩; have c1 := hl.rd.c1; have HB : Hid (Below w.heap.size w w2) := hl.belowW rfl; clear hl hnd)
  go_quiet (fail)
  go_wp2
  go_ret3
  exact ⟨below_drewN HB.out _, rfl⟩

set_option maxRecDepth 100000 in
set_option maxHeartbeats 800000 in
theorem compile_great (B : Nat) (s : ByteArray) (w : World) (hE : Env8 w B) (hB : B ≤ w.heap.size) (hs : s.size ≤ 256) (x : Nd) (p g : Nat) (hr : readS s = .yes x p g) (hps : ¬ p < s.size) (hz : 2000 < sizeN x + 1) :
    Calls Tryd.prog 10 #[.string s] w fun e w' => CmP w .large e w' := by
  have hrd := read_is hE hB hs
  rw [hr] at hrd
  have HRD : Hid (∀ W, W = w.alloc (.cells #[.string s, .int .i64 0, .int .i64 0] 58) → Calls Tryd.prog 25 #[.pointer (some ⟨w.heap.size, 0, none⟩)] W fun e w' => ∃ a, e = .returned (.tuple #[.pointer a, .bool true]) ∧ ∃ b, a = some ⟨b, 0, none⟩ ∧ RdS W w.heap.size s g w' p ∧ NdAt w' (Fresh W.heap.size w'.heap.size) x b) := hrd.out
  clear hrd hr hE
  have hsz : decide ((256 : Int) < s.size) = false := decide_eq_false (by omega)
  have hpz : ¬ (p : Int) < s.size := by omega
  have htop := sizeN_top x
  have HZ : Hid (∀ W F b, NdAt W F x b → W.cell? ⟨b, 7, none⟩ = some (.int .i64 (sizeN x))) := fun W F b h => cell7 h
  generalize sizeN x = Z at *
  go_enter Tryd.func10, Tryd.ntmps10
  go_wp2_with (go_at_call 25; refine (HRD.out _ rfl).mono ?_; clear HRD; rintro e w2 ⟨a, rfl, b, rfl, hl, hnd⟩; have c1 := hl.rd.c1; have z7 := HZ.out _ _ _ hnd; have HB : Hid (Below w.heap.size w w2) := hl.belowW rfl; clear hl hnd)
  go_ret3
  exact ⟨HB.out, rfl⟩

/-- Compile, of any text. -/
theorem compile_any (B : Nat) (s : ByteArray) (w : World) (hE : Env8 w B) (hB : B ≤ w.heap.size) :
    Calls Tryd.prog 10 #[.string s] w fun e w' => CmP w (compR s) e w' := by
  by_cases hs : 256 < s.size
  · have h9 : compR s = .large := by unfold compR; rw [if_pos hs]
    rw [h9]
    exact compile_large s w hs
  · cases hr : readS s with
    | no p =>
      have h9 : compR s = .no p := by unfold compR; rw [if_neg hs, hr]
      rw [h9]
      exact compile_no B s w hE hB (by omega) p hr
    | yes x p g =>
      by_cases hps : p < s.size
      · have h9 : compR s = .no p := by unfold compR; rw [if_neg hs, hr]; exact if_pos hps
        rw [h9]
        exact compile_rest B s w hE hB (by omega) x p g hr hps
      · by_cases hz : 2000 < sizeN x + 1
        · have h9 : compR s = .large := by unfold compR; rw [if_neg hs, hr]; exact (if_neg hps).trans (if_pos hz)
          rw [h9]
          exact compile_great B s w hE hB (by omega) x p g hr hps hz
        · have h9 : compR s = .ok x g := by unfold compR; rw [if_neg hs, hr]; exact (if_neg hps).trans (if_neg hz)
          rw [h9]
          exact compile_ok B s w hE hB (by omega) x p g hr hps (by omega)
end Go.Proofs.YtmbkcmfcdjccoaaDoor

/- Whether a class has a character. -/
namespace Go.Proofs.YtmbkcmfcdjccoaaDoor
open Go.RowKit Go.Maps Go.Sort Go.Shelf

theorem cnt_mono (p : Nat → Bool) : ∀ n, (∀ a b, a ≤ b → b < n → p a = true → p b = true) → (List.range n).countP (fun i => !p i) ≤ n ∧ ∀ i, i < n → (p i = true ↔ (List.range n).countP (fun i => !p i) ≤ i)
  | 0, _ => ⟨by simp, fun i hi => absurd hi (Nat.not_lt_zero i)⟩
  | n + 1, h => by
    obtain ⟨h1, h2⟩ := cnt_mono p n (fun a b hab hb => h a b hab (by omega))
    rw [List.range_succ, List.countP_append]
    cases hp : p n
    · have h3 : ∀ i, i < n → p i = false := fun i hi => by
        cases h4 : p i
        · rfl
        · rw [h i n (by omega) (by omega) h4] at hp
          cases hp
      have h5 : (List.range n).countP (fun i => !p i) = n := by
        rw [List.countP_eq_length.2 (fun a ha => by rw [h3 a (List.mem_range.1 ha)]; rfl), List.length_range]
      simp only [List.countP_singleton, hp, Bool.not_false, if_true, h5]
      refine ⟨Nat.le_refl _, fun i hi => ⟨fun h6 => ?_, fun h6 => absurd h6 (by omega)⟩⟩
      rcases Nat.lt_succ_iff_lt_or_eq.1 hi with h7 | h7
      · rw [h3 i h7] at h6
        cases h6
      · subst h7
        rw [hp] at h6
        cases h6
    · simp only [List.countP_singleton, hp, Bool.not_true]
      refine ⟨by simp; omega, fun i hi => ?_⟩
      simp only [Bool.false_eq_true, if_false, Nat.add_zero]
      rcases Nat.lt_succ_iff_lt_or_eq.1 hi with h7 | h7
      · exact h2 i h7
      · subst h7
        exact ⟨fun _ => h1, fun _ => hp⟩
theorem rise_get : ∀ {A : List Sp} {f : Int}, RiseS A f → ∀ (i : Nat) (hi : i < A.length), f ≤ A[i].1 ∧ A[i].1 ≤ A[i].2
  | s :: t, f, h, 0, hi => ⟨h.1, h.2.1⟩
  | s :: t, f, h, i + 1, hi => by
    have h9 := rise_get h.2.2 i (by simpa using hi)
    have h1 := h.1
    have h2 := h.2.1
    have hi2 : i < t.length := by simpa using hi
    exact ⟨by show f ≤ (t[i]'hi2).1; omega, h9.2⟩
theorem rise_lt : ∀ {A : List Sp} {f : Int}, RiseS A f → ∀ (i j : Nat) (hi : i < A.length) (hj : j < A.length), i < j → A[i].2 < A[j].1
  | s :: t, f, h, 0, 0, hi, hj, hij => absurd hij (Nat.lt_irrefl _)
  | s :: t, f, h, 0, j + 1, hi, hj, hij => by
    have h9 := (rise_get h.2.2 j (by simpa using hj)).1
    have hj2 : j < t.length := by simpa using hj
    show s.2 < (t[j]'hj2).1
    omega
  | s :: t, f, h, i + 1, 0, hi, hj, hij => absurd hij (Nat.not_lt_zero _)
  | s :: t, f, h, i + 1, j + 1, hi, hj, hij => rise_lt h.2.2 i j (by simpa using hi) (by simpa using hj) (by omega)
def hiP (A : List Sp) (c : Int) (i : Nat) : Bool := match A[i]? with | some s => decide (c ≤ s.2) | none => false
theorem hiP_at {A : List Sp} {c : Int} {i : Nat} (hi : i < A.length) : hiP A c i = decide (c ≤ A[i].2) := by simp [hiP, hi]
theorem hiP_mono {A : List Sp} {f : Int} (h : RiseS A f) (c : Int) : ∀ a b, a ≤ b → b < A.length → hiP A c a = true → hiP A c b = true := fun a b hab hb ha => by
  rw [hiP_at (by omega)] at ha
  rw [hiP_at hb]
  have ha := of_decide_eq_true ha
  apply decide_eq_true
  rcases Nat.lt_or_ge a b with h9 | h9
  · have h1 := rise_lt h a b (by omega) hb h9
    have h2 := (rise_get h b hb).2
    omega
  · obtain rfl : a = b := by omega
    exact ha
def spotS (A : List Sp) (c : Int) : Nat := (List.range A.length).countP (fun i => !hiP A c i)
theorem mem_spot {A : List Sp} {f : Int} (h : RiseS A f) (c : Int) : spotS A c ≤ A.length ∧ (spotS A c = A.length → memS A c = false) ∧ ∀ hk : spotS A c < A.length, memS A c = decide (A[spotS A c].1 ≤ c) := by
  obtain ⟨h1, h2⟩ := cnt_mono (hiP A c) A.length (hiP_mono h c)
  have hm : ∀ b, memS A c = b ↔ ((∃ i, ∃ hi : i < A.length, A[i].1 ≤ c ∧ c ≤ A[i].2) ↔ b = true) := fun b => by
    have h3 : memS A c = true ↔ ∃ i, ∃ hi : i < A.length, A[i].1 ≤ c ∧ c ≤ A[i].2 := by
      unfold memS
      rw [List.any_eq_true]
      constructor
      · rintro ⟨s, hs, h4⟩
        obtain ⟨i, hi, rfl⟩ := List.mem_iff_getElem.1 hs
        simp only [Bool.and_eq_true, decide_eq_true_eq] at h4
        exact ⟨i, hi, h4⟩
      · rintro ⟨i, hi, h4⟩
        exact ⟨A[i], List.getElem_mem hi, by simpa using h4⟩
    rw [← h3]
    cases memS A c <;> cases b <;> simp
  have hall : ∀ i (hi : i < A.length), A[i].1 ≤ c → c ≤ A[i].2 → i = spotS A c := fun i hi h4 h5 => by
    have h6 : spotS A c ≤ i := (h2 i hi).1 (by rw [hiP_at hi]; exact decide_eq_true h5)
    rcases Nat.lt_or_ge (spotS A c) i with h7 | h7
    · have h8 := (h2 (spotS A c) (by omega)).2 (Nat.le_refl _)
      rw [hiP_at (by omega)] at h8
      have h8 := of_decide_eq_true h8
      have h9 := rise_lt h (spotS A c) i (by omega) hi h7
      omega
    · omega
  refine ⟨h1, fun he => (hm false).2 ⟨fun ⟨i, hi, h4, h5⟩ => ?_, fun e => by cases e⟩, fun hk => (hm _).2 ⟨fun ⟨i, hi, h4, h5⟩ => ?_, fun h4 => ?_⟩⟩
  · have := hall i hi h4 h5
    omega
  · have h6 := hall i hi h4 h5
    subst h6
    exact decide_eq_true h4
  · have h8 := (h2 (spotS A c) hk).2 (Nat.le_refl _)
    rw [hiP_at hk] at h8
    exact ⟨spotS A c, hk, of_decide_eq_true h4, of_decide_eq_true h8⟩
theorem hide {p : Prop} (h : p) : Hid p := h
/-- What is read of the boxes. -/
structure HsBox (w : World) (X Y : Nat) (a : Option Addr) (n d : Nat) (A : List Sp) (c : Int) : Prop where
  b1 : w.cell? ⟨X, 0, none⟩ = some (.slice a n d)
  b2 : w.cell? ⟨Y, 0, none⟩ = some (.int .i32 c)
  x1 : X < w.heap.size
  x2 : Y < w.heap.size
  row : RowAt w (.slice a n d) 2 n (spC A)
  len : A.length = n
theorem HsBox.grow {w w' : World} {X Y : Nat} {a : Option Addr} {n d : Nat} {A : List Sp} {c : Int} (h : HsBox w X Y a n d A c) (hg : Below w.heap.size w w') : HsBox w' X Y a n d A c :=
  ⟨(hg.cell (p := ⟨X, 0, none⟩) h.x1).trans h.b1, (hg.cell (p := ⟨Y, 0, none⟩) h.x2).trans h.b2, Nat.lt_of_lt_of_le h.x1 hg.size, Nat.lt_of_lt_of_le h.x2 hg.size, RowAt.below h.row hg, h.len⟩

set_option maxRecDepth 100000 in
set_option maxHeartbeats 800000 in
theorem hasClos (X Y : Nat) (a : Option Addr) (n d : Nat) (A : List Sp) (c : Int) (w : World) (h : HsBox w X Y a n d A c) (i : Nat) (hi : i < n) :
    Calls Tryd.prog 48 #[.int .i64 i, .pointer (some ⟨X, 0, none⟩), .pointer (some ⟨Y, 0, none⟩)] w fun e w' => e = .returned (.bool (hiP A c i)) ∧ ∃ q os', w' = grow (w.drewN q) os' := by
  have hil : i < A.length := by rw [h.len]; exact hi
  obtain ⟨b, o, rfl, g1⟩ := h.row.one (spC_get A i hil).2
  have q1 := g1 w (Below.refl _ _)
  rw [← Nat.add_assoc] at q1
  have b1 := h.b1
  have b2 := h.b2
  rw [hiP_at hil]
  generalize A[i].2 = y at *
  have hiz : (i : Int) < n := by omega
  clear h g1
  go_enter Tryd.func48, Tryd.ntmps48
  go_wp2
  go_quiet (fail)
  go_wp2
  go_ret
  exact ⟨by first | rfl | simp, _, #[], by rw [grow_empty]⟩

set_option maxRecDepth 100000 in
set_option maxHeartbeats 800000 in
theorem has_any (a : Option Addr) (n d : Nat) (A : List Sp) (c : Int) (w : World) (h : RowAt w (.slice a n d) 2 n (spC A)) (hn : A.length = n) (hr : RiseS A 0) (hn2 : n ≤ 2000000) :
    Calls Tryd.prog 41 #[.slice a n d, .int .i32 c] w fun e w' => e = .returned (.bool (memS A c)) ∧ Below w.heap.size w w' := by
  obtain ⟨W2, hW2⟩ : ∃ W2, W2 = (w.alloc (.cells #[.slice a n d] 62)).alloc (.cells #[.int .i32 c] 21) := ⟨_, rfl⟩
  have hb1 : Below w.heap.size w (w.alloc (.cells #[.slice a n d] 62)) := (Below.refl _ w).alloc (Nat.le_refl _) _
  have hb2 : Below w.heap.size w W2 := by rw [hW2]; exact hb1.alloc hb1.size _
  have hP : HsBox W2 w.heap.size (w.heap.size + 1) a n d A c := by
    have h1 := heap_alloc_new w (.cells #[.slice a n d] 62)
    have h2 := (Below.heap_alloc _ (.cells #[.int .i32 c] 21) w.heap.size (by simp)).trans h1
    have h3 := heap_alloc_new (w.alloc (.cells #[.slice a n d] 62)) (.cells #[.int .i32 c] 21)
    rw [show (w.alloc (.cells #[.slice a n d] 62)).heap.size = w.heap.size + 1 by simp] at h3
    rw [← hW2] at h2 h3
    have hs2 : W2.heap.size = w.heap.size + 2 := by rw [hW2]; simp
    exact ⟨cell_of_heap (i := 0) h2, cell_of_heap (i := 0) h3, by omega, by omega, RowAt.below h hb2, hn⟩
  have e1 : ∀ args w, (callFunc 48 args).run Tryd.prog w = .ok (.enter 48 args) w := enters_of Tryd.func48 (by kernel_rfl) rfl
  have hS1 : Calls Tryd.prog 47 #[.int .i64 n, .func (.func 48) #[] #[.pointer (some ⟨w.heap.size, 0, none⟩), .pointer (some ⟨w.heap.size + 1, 0, none⟩)]] W2 fun e w' => e = .returned (.int .i64 (spotS A c : Nat)) ∧ HsBox w' w.heap.size (w.heap.size + 1) a n d A c ∧ Below w.heap.size w w' := by
    have hc := Any.sort_Search Tryd.search 48 #[.pointer (some ⟨w.heap.size, 0, none⟩), .pointer (some ⟨w.heap.size + 1, 0, none⟩)] n (hiP A c) W2 e1 (by omega) (fun m os i hi => hasClos w.heap.size (w.heap.size + 1) a n d A c _ (hP.grow (below_grown_sl _ _ _ _ (Nat.le_refl _))) i hi) (by rw [← hn]; exact hiP_mono hr c)
    change Calls Tryd.prog 47 _ _ _ at hc
    refine hc.mono ?_
    rintro e w' ⟨he, q, os, rfl⟩
    have hg : Below W2.heap.size W2 (grow (W2.drewN q) os) := below_grown_sl _ _ _ _ (Nat.le_refl _)
    exact ⟨by rw [he]; unfold spotS; rw [hn], hP.grow hg, hb2.trans (hg.mono hb2.size)⟩
  have HS1 := hide hS1
  rw [hW2] at HS1
  obtain ⟨m1, m2, m3⟩ := mem_spot hr c
  rw [hn] at m1 m2
  have HN : Hid (A.length = n) := hn
  clear hS1 hP hb1 hb2 h hW2 e1
  generalize hk : spotS A c = k at *
  by_cases hkn : k < n
  · have hkl : k < A.length := by rw [hn]; exact hkn
    have hm := m3 hkl
    have hkd : decide ((k : Int) < n) = true := decide_eq_true (by omega)
    have hkz : (k : Int) < n := by omega
    clear m2 m3
    go_enter Tryd.func41, Tryd.ntmps41
    go_wp2_with (go_at_call 47; refine HS1.out.mono ?_; clear HS1; rintro e w3 ⟨rfl, hP, hb⟩; have b1 := hP.b1; have b2 := hP.b2; obtain ⟨bb, o, rfl, g1⟩ := hP.row.one (spC_get A k hkl).1; have q1 := g1 w3 (Below.refl _ _); have HB : Hid (Below w.heap.size w w3) := hb; clear hP hb g1)
    go_quiet (fail)
    go_wp2
    go_ret
    exact ⟨by rw [hm]; rfl, below_drewN HB.out _⟩
  · have hm := m2 (by omega)
    have hkd : decide ((k : Int) < n) = false := decide_eq_false (by omega)
    clear m2 m3
    go_enter Tryd.func41, Tryd.ntmps41
    go_wp2_with (go_at_call 47; refine HS1.out.mono ?_; clear HS1; rintro e w3 ⟨rfl, hP, hb⟩; have b1 := hP.b1; have b2 := hP.b2; have HB : Hid (Below w.heap.size w w3) := hb; clear hP hb)
    go_quiet (fail)
    go_wp2
    go_ret
    exact ⟨by rw [hm]; rfl, below_drewN HB.out _⟩
end Go.Proofs.YtmbkcmfcdjccoaaDoor
