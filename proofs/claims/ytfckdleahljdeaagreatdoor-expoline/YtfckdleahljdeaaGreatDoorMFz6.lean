/- The document's ReadLine. -/
import Derived.Test.YtfckdleahljdeaaGreatDoorMFz4
namespace Go.Proofs.YtfckdleahljdeaaGreatDoor
open Go.RowKit Go.Maps
attribute [local go_sem] run_store_float

theorem setR_place {N : ByteArray} {ls : List Lb} {V : Nat} {T : Int} {h : Bool} {p : Nat} {er : Int} (hr : setR N ls V T h = .bad p er) : p = 0 := by
  unfold setR at hr
  split at hr
  · cases hr; rfl
  · split at hr
    · cases hr; rfl
    · cases hr
theorem numsR_place {s N : ByteArray} {ls : List Lb} {i p : Nat} {er : Int} (hi : i ≤ s.size) (hr : numsR s N ls i = .bad p er) : p ≤ s.size := by
  have t1 := to_le hi
  have t2 := sk_le t1
  have t3 := to_le t2
  have t4 := sk_le t3
  unfold numsR at hr
  split at hr
  · cases hr; exact hi
  · split at hr
    · split at hr
      · cases hr; exact t2
      · split at hr
        · cases hr; exact t4
        · have := setR_place hr; omega
    · have := setR_place hr; omega
theorem readR_place {s : ByteArray} {p : Nat} {er : Int} (hr : readR s = .bad p er) : p ≤ s.size := by
  have t0 := sk_le (s := s) (i := 0) (Nat.zero_le _)
  have t1 := wo_le (co := true) t0
  have t2 := sk_le t1
  unfold readR at hr
  split at hr
  · cases hr; exact t0
  · split at hr
    · rename_i h123
      have hlt := some_lt h123
      cases hl : labsR s (s.size + 1) (skipP s.data.toList (wordP true s.data.toList (skipP s.data.toList 0)) + 1) [] with
      | inl pe =>
        rw [hl] at hr
        obtain ⟨z, e⟩ := pe
        cases hr
        exact (labsR_err s _ _ _ _ _ (by omega) hl).1
      | inr lp =>
        rw [hl] at hr
        obtain ⟨ls, z⟩ := lp
        have hz := (labsR_size s _ _ [] ls z (by omega) hl (fun x hx => by cases hx)).2.1
        exact numsR_place (sk_le hz) hr
    · split at hr
      · cases hr; exact t2
      · exact numsR_place t2 hr
theorem take_front : ∀ (l : List UInt8) (i : Nat), i < l.length → (∀ k (h : k < l.length), k < i → l[k] ≠ 10) → l[i]? = some 10 → l.take i = l.takeWhile (fun c => c != 10)
  | [], i, h, _, _ => absurd h (Nat.not_lt_zero _)
  | c :: t, 0, _, _, h => by
    have : c = 10 := by simpa using h
    subst this
    rfl
  | c :: t, i + 1, hl, hn, h => by
    have h0 : c ≠ 10 := hn 0 (by simp) (by omega)
    rw [List.take_succ_cons, List.takeWhile_cons, if_pos (by simpa using h0), take_front t i (by simpa using hl) (fun k hk hki => hn (k + 1) (by simpa using hk) (by omega)) (by simpa using h)]
theorem front_is {s : ByteArray} {i : Nat} (hi : i < s.size) (hn : ∀ k (h : k < s.size), k < i → s[k] ≠ 10) (h : s[i] = 10) : frontB s = s.extract 0 i := by
  have e : (s.extract 0 i).data.toList = s.data.toList.take i := by simp
  have h2 := take_front s.data.toList i (by rw [len_list]; exact hi) (fun k hk hki => by rw [byteAt s k (by rw [len_list] at hk; exact hk)]; exact hn k _ hki) (by rw [List.getElem?_eq_getElem (by rw [len_list]; exact hi), byteAt s i hi, h])
  unfold frontB
  rw [← h2, ← e]
/-- What is read ahead of a line end, behind which the line is refused. -/
def cutR (i : Nat) : LRes → LRes | .bad p e => .bad p e | .ok _ _ _ _ => .bad i 8
/-- The line's answer where a line end stands in it. -/
theorem lineR_to {s : ByteArray} {i : Nat} (hi : i < s.size) (hn : ∀ k (h : k < s.size), k < i → s[k] ≠ 10) (h : s[i] = 10) : lineR s = cutR i (readR (s.extract 0 i)) := by
  have hm : (10 : UInt8) ∈ s.data.toList := by
    rw [← h, ← byteAt s i hi]
    exact List.getElem_mem _
  have hf := front_is hi hn h
  have hz : (frontB s).size = i := by rw [hf, ByteArray.size_extract]; omega
  unfold lineR
  rw [if_pos hm, hz, hf]
  cases readR (s.extract 0 i) <;> rfl
theorem lineR_none {s : ByteArray} (hn : ∀ k (h : k < s.size), s[k] ≠ 10) : lineR s = readR s := by
  have hm : ¬ (10 : UInt8) ∈ s.data.toList := fun h => by
    obtain ⟨k, hk, e⟩ := List.mem_iff_getElem.1 h
    rw [len_list] at hk
    rw [byteAt s k hk] at e
    exact hn k hk e
  unfold lineR
  rw [if_neg hm]

set_option maxRecDepth 100000 in
theorem res_rto (tmps : Array Value) (b : Nat) (p e : Int) (hp : tmps.getD 4 undef = .pointer (some ⟨b, 0, none⟩)) (h3 : tmps.getD 5 undef = .int .i64 p) (h4 : tmps.getD 6 undef = .int .i64 e) (W : World) (v0 v1 v2 v3 : Value) (hb : W.heap[b]? = some (.cells #[v0, v1, v2, v3] 28 (0, 0))) :
    (results Tryz.f11 tmps).run Tryz.prog W = .ok (.tuple #[.agg #[v0, v1, v2, v3], .int .i64 p, .int .i64 e]) W := by
  have hp' : tmps[4]?.getD undef = .pointer (some ⟨b, 0, none⟩) := by simpa using hp
  have h3' : tmps[5]?.getD undef = .int .i64 p := by simpa using h3
  have h4' : tmps[6]?.getD undef = .int .i64 e := by simpa using h4
  have hc0 : W.cell? ⟨b, 0, none⟩ = some v0 := by simp [World.cell?, hb]
  have hc1 : W.cell? ⟨b, 1, none⟩ = some v1 := by simp [World.cell?, hb]
  have hc2 : W.cell? ⟨b, 2, none⟩ = some v2 := by simp [World.cell?, hb]
  have hc3 : W.cell? ⟨b, 3, none⟩ = some v3 := by simp [World.cell?, hb]
  simp [results, Tryz.results11, hp', h3', h4', go_sem, hc0, hc1, hc2, hc3]
set_option maxRecDepth 100000 in
theorem res_rln (tmps : Array Value) (b : Nat) (p e : Int) (hp : tmps.getD 2 undef = .pointer (some ⟨b, 0, none⟩)) (h3 : tmps.getD 3 undef = .int .i64 p) (h4 : tmps.getD 4 undef = .int .i64 e) (W : World) (v0 v1 v2 v3 : Value) (hb : W.heap[b]? = some (.cells #[v0, v1, v2, v3] 28 (0, 0))) :
    (results Tryz.f6 tmps).run Tryz.prog W = .ok (.tuple #[.agg #[v0, v1, v2, v3], .int .i64 p, .int .i64 e]) W := by
  have hp' : tmps[2]?.getD undef = .pointer (some ⟨b, 0, none⟩) := by simpa using hp
  have h3' : tmps[3]?.getD undef = .int .i64 p := by simpa using h3
  have h4' : tmps[4]?.getD undef = .int .i64 e := by simpa using h4
  have hc0 : W.cell? ⟨b, 0, none⟩ = some v0 := by simp [World.cell?, hb]
  have hc1 : W.cell? ⟨b, 1, none⟩ = some v1 := by simp [World.cell?, hb]
  have hc2 : W.cell? ⟨b, 2, none⟩ = some v2 := by simp [World.cell?, hb]
  have hc3 : W.cell? ⟨b, 3, none⟩ = some v3 := by simp [World.cell?, hb]
  simp [results, Tryz.results6, hp', h3', h4', go_sem, hc0, hc1, hc2, hc3]

/-- What is answered, by its parts. -/
def lsOf : LRes → List Lb | .bad _ _ => [] | .ok ls _ _ _ => ls
def vOf : LRes → Nat | .bad _ _ => 0 | .ok _ V _ _ => V
def tOf : LRes → Int | .bad _ _ => 0 | .ok _ _ T _ => T
def hOf : LRes → Bool | .bad _ _ => false | .ok _ _ _ h => h
def pOf : LRes → Nat | .bad p _ => p | .ok _ _ _ _ => 0
def eOf : LRes → Int | .bad _ e => e | .ok _ _ _ _ => 0
theorem RdP.parts {w w' : World} {R : LRes} {en : Ending} (h : RdP w R en w') : ∃ a c, en = .returned (.tuple #[.agg #[.slice a (lsOf R).length c, .float .f64 (vOf R), .int .i64 (tOf R), .bool (hOf R)], .int .i64 (pOf R), .int .i64 (eOf R)]) ∧ w'.ownsRow w.heap.size 49 2 (.slice a (lsOf R).length c) (lsOf R).length (lbCells (lsOf R)) := by
  cases R with
  | bad p er =>
    obtain ⟨rfl, -⟩ := h
    exact ⟨none, 0, rfl, World.ownsRow_nil _ _ _ _⟩
  | ok ls V T hb =>
    obtain ⟨a, n, c, rfl, hr⟩ := h
    obtain ⟨a', c', e⟩ := slice_of_row hr
    cases e
    exact ⟨a, c, rfl, hr⟩
theorem RdP.on {w WA w1 w' : World} {R : LRes} {en : Ending} (h : RdP WA R en w1) (hs : w.heap.size < WA.heap.size) (hk : Kept (fun k => k = w.heap.size) w1 w') : RdP w R en w' := by
  cases R with
  | bad p er => exact h
  | ok ls V T hb =>
    obtain ⟨a, n, c, he, hr⟩ := h
    exact ⟨a, n, c, he, row_mono (hk.ownsRow hr (fun j hj e => by have := row_lo hr j hj; omega)) (by omega)⟩
theorem RB.lt {w W : World} (H : RB w W) : w.heap.size < W.heap.size := (Array.getElem?_eq_some_iff.1 H.box).1
theorem RB.below {w W W' : World} (H : RB w W) (hb : Below W.heap.size W W') : RB w W' := ⟨(hb.block _ H.lt).trans H.box, H.bel.trans (hb.mono H.bel.size)⟩
theorem RB.start (w : World) : RB w (w.alloc (.cells #[.slice none 0 0, .float .f64 0, .int .i64 0, .bool false] 28)) := ⟨heap_alloc_new w _, (Below.refl _ _).alloc (Nat.le_refl _) _⟩
theorem RB.alloc {w W : World} (H : RB w W) (o : Obj) : RB w (W.alloc o) := H.below ((Below.refl _ _).alloc (Nat.le_refl _) o)
theorem eOf_bad {R : LRes} {p : Nat} {er : Int} {w w' : World} {en : Ending} (hP : RdP w R en w') (h : R = .bad p er) : er ≠ 0 := by
  subst h
  exact hP.2

set_option maxRecDepth 100000 in
set_option maxHeartbeats 4000000 in
theorem refReadTo_any (s : ByteArray) (i : Nat) (w : World) (hs : s.size ≤ 4000) (hi : i < s.size) (hn : ∀ k (h : k < s.size), k < i → s[k] ≠ 10) (h : s[i] = 10) :
    Calls Tryz.prog 11 #[.string s, .int .i64 i] w fun en w' => RdP w (lineR s) en w' ∧ Below w.heap.size w w' := by
  obtain ⟨f, hf⟩ : ∃ f, f = s.extract 0 i := ⟨_, rfl⟩
  have hfz : f.size = i := by rw [hf, ByteArray.size_extract]; omega
  have hrd := fun W => refRead_any f W (by omega) (fun k hk => by
    subst hf
    rw [ByteArray.getElem_extract]
    simp only [Nat.zero_add]
    exact hn k (by omega) (by omega))
  obtain ⟨R, hR⟩ : ∃ R, R = readR f := ⟨_, rfl⟩
  rw [← hR] at hrd
  have hL : lineR s = cutR i R := by rw [lineR_to hi hn h, hR, hf]
  have hpl : pOf R ≤ i := by
    cases hc : R with
    | bad p er => rw [hc] at hR; have := readR_place hR.symm; show p ≤ i; omega
    | ok ls V T hb => exact Nat.zero_le _
  have hne : ∀ W en w', RdP W R en w' → eOf R = 0 → lineR s = .bad i 8 := fun W en w' hP he => by
    rw [hL]
    cases R with
    | bad p er => exact absurd he hP.2
    | ok ls V T hb => rfl
  have hbd : eOf R ≠ 0 → lineR s = .bad (pOf R) (eOf R) := fun he => by
    rw [hL]
    cases R with
    | bad p er => rfl
    | ok ls V T hb => exact absurd rfl he
  have HRD : Hid (∀ W, Calls Tryz.prog 12 #[.string f] W fun en w' => ∃ a c, en = .returned (.tuple #[.agg #[.slice a (lsOf R).length c, .float .f64 (vOf R), .int .i64 (tOf R), .bool (hOf R)], .int .i64 (pOf R), .int .i64 (eOf R)]) ∧ (eOf R = 0 → lineR s = .bad i 8) ∧ Below W.heap.size W w') := fun W => (hrd W).mono (by
    rintro en w' ⟨hP, hb⟩
    obtain ⟨a, c, he, -⟩ := hP.parts
    exact ⟨a, c, he, hne W en w' hP, hb⟩)
  have HBD : Hid (eOf R ≠ 0 → lineR s = .bad (pOf R) (eOf R)) := hbd
  obtain ⟨LR, hLR⟩ : ∃ LR, LR = lineR s := ⟨_, rfl⟩
  rw [← hLR] at HRD HBD ⊢
  generalize pOf R = P at *
  generalize eOf R = E at *
  generalize (lsOf R).length = n0 at *
  generalize vOf R = V at *
  generalize tOf R = T at *
  generalize hOf R = hh at *
  have hii : (i : Int) ≤ s.size := by omega
  rw [hf] at HRD
  have HB0 : Hid (RB w (w.alloc (.cells #[.slice none 0 0, .float .f64 0, .int .i64 0, .bool false] 28))) := RB.start w
  clear hL hne hbd hLR hR hrd hf hfz hn h
  by_cases hE : E = 0
  · subst hE
    go_enter Tryz.func11, Tryz.ntmps11
    go_wp2_with (go_at_call 12; refine (HRD.out _).mono ?_; clear HRD; rintro en w1 ⟨a, c, rfl, hz, hb⟩; have HZ : Hid _ := hz; have HB : Hid (RB w (w1.alloc (.cells #[.slice a n0 c, .float .f64 V, .int .i64 T, .bool hh] 28))) := (HB0.out.below hb).alloc _; clear HB0 hb hz; obtain ⟨y0, y1, y2, y3, g0, g1, g2, g3⟩ := HB.out.bx)
    have HF := HB.out.again (.slice none 0 0) (.float .f64 0) (.int .i64 0) (.bool false)
    refine bodyPost_ret (res_rto _ w.heap.size i 8 rfl rfl rfl _ _ _ _ _ HF.1) rfl ?_
    rw [HZ.out (by first | rfl | trivial)]
    exact ⟨⟨rfl, by decide⟩, HF.2.1⟩
  · have q1 := no_eq hE
    have q2 := ne_eq hE
    have HLR : Hid (LR = .bad P E ∧ E ≠ 0) := ⟨HBD.out hE, hE⟩
    clear HBD
    by_cases h8 : E = 8
    · subst h8
      by_cases hlt : P < i
      · have hlti : (P : Int) < i := by omega
        go_enter Tryz.func11, Tryz.ntmps11
        go_wp2_with (go_at_call 12; refine (HRD.out _).mono ?_; clear HRD; rintro en w1 ⟨a, c, rfl, hz, hb⟩; have HZ : Hid _ := hz; have HB : Hid (RB w (w1.alloc (.cells #[.slice a n0 c, .float .f64 V, .int .i64 T, .bool hh] 28))) := (HB0.out.below hb).alloc _; clear HB0 hb hz; obtain ⟨y0, y1, y2, y3, g0, g1, g2, g3⟩ := HB.out.bx)
        have HF := HB.out.again (.slice none 0 0) (.float .f64 0) (.int .i64 0) (.bool false)
        refine bodyPost_ret (res_rto _ w.heap.size P 8 rfl rfl rfl _ _ _ _ _ HF.1) rfl ?_
        rw [HLR.out.1]
        exact ⟨⟨rfl, by decide⟩, HF.2.1⟩
      · obtain rfl : P = i := by omega
        go_enter Tryz.func11, Tryz.ntmps11
        go_wp2_with (go_at_call 12; refine (HRD.out _).mono ?_; clear HRD; rintro en w1 ⟨a, c, rfl, hz, hb⟩; have HZ : Hid _ := hz; have HB : Hid (RB w (w1.alloc (.cells #[.slice a n0 c, .float .f64 V, .int .i64 T, .bool hh] 28))) := (HB0.out.below hb).alloc _; clear HB0 hb hz; obtain ⟨y0, y1, y2, y3, g0, g1, g2, g3⟩ := HB.out.bx)
        have HF := HB.out.again (.slice none 0 0) (.float .f64 0) (.int .i64 0) (.bool false)
        refine bodyPost_ret (res_rto _ w.heap.size P 8 rfl rfl rfl _ _ _ _ _ HF.1) rfl ?_
        rw [HLR.out.1]
        exact ⟨⟨rfl, by decide⟩, HF.2.1⟩
    · have q3 : (E == 8) = false := by simpa using h8
      have q4 : (E != 8) = true := by simpa using h8
      go_enter Tryz.func11, Tryz.ntmps11
      go_wp2_with (go_at_call 12; refine (HRD.out _).mono ?_; clear HRD; rintro en w1 ⟨a, c, rfl, hz, hb⟩; have HZ : Hid _ := hz; have HB : Hid (RB w (w1.alloc (.cells #[.slice a n0 c, .float .f64 V, .int .i64 T, .bool hh] 28))) := (HB0.out.below hb).alloc _; clear HB0 hb hz; obtain ⟨y0, y1, y2, y3, g0, g1, g2, g3⟩ := HB.out.bx)
      have HF := HB.out.again (.slice none 0 0) (.float .f64 0) (.int .i64 0) (.bool false)
      refine bodyPost_ret (res_rto _ w.heap.size P E rfl rfl rfl _ _ _ _ _ HF.1) rfl ?_
      rw [HLR.out.1]
      exact ⟨⟨rfl, HLR.out.2⟩, HF.2.1⟩

set_option maxRecDepth 100000 in
set_option maxHeartbeats 4000000 in
theorem refReadLine_any (s : ByteArray) (w : World) (hs : s.size ≤ 4000) :
    Calls Tryz.prog 6 #[.string s] w fun en w' => RdP w (lineR s) en w' ∧ Below w.heap.size w w' := by
  have HB : Hid (RB w (w.alloc (.cells #[.slice none 0 0, .float .f64 0, .int .i64 0, .bool false] 28))) := RB.start w
  have HTO : Hid (∀ i W, i < s.size → (∀ k (h : k < s.size), k < i → s[k] ≠ 10) → (∃ h : i < s.size, s[i] = 10) → Calls Tryz.prog 11 #[.string s, .int .i64 i] W fun en w' => RdP W (lineR s) en w' ∧ Below W.heap.size W w') := fun i W hi hn h => by
    obtain ⟨_, h⟩ := h
    exact refReadTo_any s i W hs hi hn h
  have HRD : Hid (∀ W, (∀ k (h : k < s.size), s[k] ≠ 10) → Calls Tryz.prog 12 #[.string s] W fun en w' => RdP W (lineR s) en w' ∧ Below W.heap.size W w') := fun W hn => by
    rw [lineR_none hn]
    exact refRead_any s W hs hn
  generalize lineR s = R at *
  go_enter Tryz.func6, Tryz.ntmps6
  go_upto_region 1 with fail
  refine goOn (S := fun W => RB w W) HB.out ?_
  clear HB
  intro WA hA
  have HB : Hid (RB w WA) := hA
  clear hA
  go_wp2
  go_loopw [5] (fun i wr => ∃ k : Nat, k ≤ s.size ∧ i = .int .i64 k ∧ Hid (∀ j (h : j < s.size), j < k → s[j] ≠ 10) ∧ wr = WA) (fun i _ => s.size - (intOf i).toNat)
  case atStart => exact ⟨0, Nat.zero_le _, rfl, fun j _ h => absurd h (Nat.not_lt_zero _), rfl⟩
  case round =>
    obtain ⟨k, hk, rfl, HN, rfl⟩ := hrel
    by_cases hlt : k < s.size
    · have hki : (k : Int) < s.size := by omega
      have hbl : s[k].toNat < 256 := s[k].toNat_lt
      by_cases h10 : s[k] = 10
      · have hby : (s[k].toNat : Int) = 10 := by rw [h10]; rfl
        have HC : Hid (Calls Tryz.prog 11 #[.string s, .int .i64 k] wr fun en w' => RdP wr R en w' ∧ Below wr.heap.size wr w') := HTO.out k wr hlt HN.out ⟨hlt, h10⟩
        clear HTO HRD h10 HN
        go_wp2_with (go_at_call 11; refine HC.out.mono ?_; clear HC; rintro en w1 ⟨hP, hb⟩; obtain ⟨a, c, rfl, -⟩ := hP.parts; have HP : Hid (RdP wr R _ w1) := hP; have HQ : Hid (RB w w1) := HB.out.below hb; clear hP hb; obtain ⟨y0, y1, y2, y3, g0, g1, g2, g3⟩ := HQ.out.bx)
        have HF := HQ.out.again (.slice a (lsOf R).length c) (.float .f64 (vOf R)) (.int .i64 (tOf R)) (.bool (hOf R))
        refine bodyPost_ret (res_rln _ w.heap.size (pOf R) (eOf R) rfl rfl rfl _ _ _ _ _ HF.1) rfl ?_
        exact ⟨HP.out.on HB.out.lt HF.2.2, HF.2.1⟩
      · have hby : ((s[k].toNat : Int) == 10) = false := by
          have h9 : ((s[k].toNat : Int) == ((10 : UInt8).toNat : Int)) = (s[k] == 10) := u8_eq
          have h8 : (s[k] == 10) = false := by simpa using h10
          rw [h8] at h9
          exact h9
        have HN2 : Hid (∀ j (h : j < s.size), j < k + 1 → s[j] ≠ 10) := fun j hj hjk => by
          by_cases e : j = k
          · subst e; exact h10
          · exact HN.out j hj (by omega)
        clear HTO HRD h10 HN
        go_wp2
        go_roundw
        case rel => exact ⟨k + 1, by omega, by go_num, HN2, by first | rfl | trivial⟩
        case measure => simp [intOf]; omega
    · have HC : Hid (Calls Tryz.prog 12 #[.string s] wr fun en w' => RdP wr R en w' ∧ Below wr.heap.size wr w') := HRD.out wr (fun j hj => HN.out j hj (by omega))
      have hki : ¬ (k : Int) < s.size := by omega
      clear HTO HRD HN
      go_wp2_with (go_at_call 12; refine HC.out.mono ?_; clear HC; rintro en w1 ⟨hP, hb⟩; obtain ⟨a, c, rfl, -⟩ := hP.parts; have HP : Hid (RdP wr R _ w1) := hP; have HQ : Hid (RB w w1) := HB.out.below hb; clear hP hb; obtain ⟨y0, y1, y2, y3, g0, g1, g2, g3⟩ := HQ.out.bx)
      have HF := HQ.out.again (.slice a (lsOf R).length c) (.float .f64 (vOf R)) (.int .i64 (tOf R)) (.bool (hOf R))
      refine bodyPost_ret (res_rln _ w.heap.size (pOf R) (eOf R) rfl rfl rfl _ _ _ _ _ HF.1) rfl ?_
      exact ⟨HP.out.on HB.out.lt HF.2.2, HF.2.1⟩
end Go.Proofs.YtfckdleahljdeaaGreatDoor
