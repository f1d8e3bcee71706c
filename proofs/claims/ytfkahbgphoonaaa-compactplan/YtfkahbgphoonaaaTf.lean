/- The program's plan is the document's: the end. -/
import Derived.Test.YtfkahbgphoonaaaTe
namespace Go.Proofs.Ytfkahbgphoonaaa
open Go.RowKit Go.Shelf Go.Maps Go.Sort

def PB (level s nw : Int) (L : List Mt) (b : Int) : Prop := s ∣ b ∧ Cand level s nw L b
/-- What a level comes to. -/
def Res (level s nw : Int) (L : List Mt) (ns : List ByteArray) : Prop :=
  (∃ b l, PB level s nw L b ∧ (∀ b', b' < b → ¬ PB level s nw L b') ∧ l.Perm ((L.filter (stB level b s)).map fun m => ((0 : Int), clM m)) ∧ SortedM l ∧ ns = l.map (·.2.nm)) ∨ ((∀ b, ¬ PB level s nw L b) ∧ ns = [])

theorem res_prog (level s nw : Int) (L : List Mt) (hs : 1 ≤ s) (ls : List Mb) (hp : ls.Perm (mbsF level nw s L)) (hso : SortedM ls) : Res level s nw L ((lotF ls).map (·.2.nm)) := by
  have hle : ls.Pairwise fun x y => x.1 ≤ y.1 := List.Pairwise.imp (fun {x y} h => by
    by_cases h9 : y.1 < x.1
    · exact absurd (Or.inl h9) h
    · omega) hso
  have hfp : ∀ b, (ls.filter fun x => decide (x.1 = b)).Perm ((L.filter fun m => stB level b s m && okB s nw b).map fun m => (b, clM m)) := fun b => by
    rw [← mbs_at level nw s b hs L]
    exact hp.filter _
  have hok : ∀ b, okB s nw b = true → (L.filter fun m => stB level b s m && okB s nw b) = L.filter (stB level b s) := fun b hb => by simp [hb]
  have hpb : ∀ b, PB level s nw L b ↔ 2 ≤ (ls.filter fun x => decide (x.1 = b)).length := fun b => by
    rw [(hfp b).length_eq, List.length_map]
    constructor
    · rintro ⟨h1, h2, h3⟩
      rw [hok b (by simp [okB, h1, h3])]
      exact h2
    · intro h
      cases hb : okB s nw b
      · have e : (L.filter fun m => stB level b s m && okB s nw b) = [] := by
          rw [List.filter_eq_nil_iff]
          intro m _
          simp [hb]
        rw [e] at h
        simp at h
      · rw [hok b hb] at h
        simp only [okB, Bool.and_eq_true, decide_eq_true_eq] at hb
        exact ⟨hb.1, h, hb.2⟩
  rcases lot_first ls hle with ⟨h1, h2⟩ | ⟨b, h1, h2, h3⟩
  · refine Or.inr ⟨fun b hb => ?_, by rw [h1]; rfl⟩
    have := (hpb b).1 hb
    have := h2 b
    omega
  · have hPb : PB level s nw L b := (hpb b).2 (by rw [← h1]; exact h2)
    refine Or.inl ⟨b, (lotF ls).map (fun x => ((0 : Int), x.2)), hPb, fun b' hb' h9 => ?_, ?_, ?_, ?_⟩
    · have := (hpb b').1 h9
      have := h3 b' hb'
      omega
    · have h4 := (hfp b).map (fun x : Mb => ((0 : Int), x.2))
      rw [hok b (by simp [okB, hPb.1, hPb.2.2]), List.map_map] at h4
      rw [h1]
      exact h4
    · rw [h1]
      unfold SortedM
      rw [List.pairwise_map]
      have h5 : (ls.filter fun x => decide (x.1 = b)).Pairwise fun x y => ¬ LtM y x := List.Pairwise.sublist List.filter_sublist hso
      refine List.Pairwise.imp_of_mem (fun {x y} hx hy h9 h10 => h9 ?_) h5
      have e1 : x.1 = b := by simpa using (List.mem_filter.1 hx).2
      have e2 : y.1 = b := by simpa using (List.mem_filter.1 hy).2
      unfold LtM at h10 ⊢
      dsimp only at h10
      rcases h10 with h10 | ⟨-, h10⟩
      · omega
      · exact Or.inr ⟨by omega, h10⟩
    · rw [List.map_map]
      rfl
theorem dvd_floor (x s : Int) : s ∣ x - x % s := ⟨x / s, by have := Int.mul_ediv_add_emod x s; omega⟩
theorem csF_dvd {level s : Int} {L : List Mt} {c : Int} (h : c ∈ csF level s L) : s ∣ c := by
  unfold csF at h
  obtain ⟨m, -, hc⟩ := List.mem_flatMap.1 h
  split at hc
  · rcases List.mem_cons.1 hc with rfl | hc
    · exact dvd_floor _ _
    · simp at hc
      subst hc
      exact Int.dvd_sub (dvd_floor _ _) (Int.dvd_refl s)
  · simp at hc
theorem pb_mem {level s nw : Int} {L : List Mt} (hs : 1 ≤ s) {b : Int} (h : PB level s nw L b) : b ∈ csF level s L := by
  obtain ⟨⟨t, rfl⟩, h2, h3⟩ := h
  have h4 : (L.filter (stB level (s * t) s)) ≠ [] := fun e => by rw [e] at h2; simp at h2
  obtain ⟨m, hm⟩ := List.exists_mem_of_ne_nil _ h4
  obtain ⟨hmL, hst⟩ := List.mem_filter.1 hm
  obtain ⟨h5, h6, h7⟩ := (stB_iff _ _ _ _).1 hst
  unfold csF
  refine List.mem_flatMap.2 ⟨m, hmL, ?_⟩
  rw [if_pos h5]
  have g1 : s * t ≤ cl m.lo := by omega
  have g2 : cl m.lo ≤ s * t + s := by omega
  generalize cl m.lo = x at g1 g2
  have e1 := Int.emod_nonneg x (show s ≠ 0 by omega)
  have e2 := Int.emod_lt_of_pos x (show 0 < s by omega)
  have e3 := Int.mul_ediv_add_emod x s
  have e4 : x - x % s = s * (x / s) := by omega
  rw [e4]
  generalize x / s = q at *
  have k1 : t ≤ q := by
    have : s * t < s * (q + 1) := by rw [Int.mul_add, Int.mul_one]; omega
    have := Int.lt_of_mul_lt_mul_left this (by omega)
    omega
  have k2 : q ≤ t + 1 := by
    have : s * q < s * (t + 1 + 1) := by rw [Int.mul_add, Int.mul_one, Int.mul_add, Int.mul_one]; omega
    have := Int.lt_of_mul_lt_mul_left this (by omega)
    omega
  obtain rfl | rfl : q = t ∨ q = t + 1 := by omega
  · simp
  · simp
    right
    rw [Int.mul_add, Int.mul_one]
    omega
theorem res_best {level s nw : Int} {L out : List Mt} {b : Int} (hs : 1 ≤ s) (h : LotOf level b s L out) (hb : BestC level s nw L (csF level s L) b) : Res level s nw L (out.map (·.nm)) := by
  refine Or.inl ⟨b, out.map (fun m => ((0 : Int), clM m)), ⟨csF_dvd hb.1, hb.2.1⟩, fun b' hb' h9 => ?_, h.1.map _, ?_, ?_⟩
  · have := hb.2.2 b' (pb_mem hs h9) h9.2
    omega
  · unfold SortedM
    rw [List.pairwise_map]
    exact h.2
  · rw [List.map_map]
    rfl
theorem res_none {level s nw : Int} {L : List Mt} (hs : 1 ≤ s) (h : NoC level s nw L (csF level s L)) : Res level s nw L [] := Or.inr ⟨fun b hb => h b (pb_mem hs hb) hb.2, rfl⟩
theorem res_one {level s nw : Int} {L : List Mt} {ns ns' : List ByteArray} (h : Res level s nw L ns) (h' : Res level s nw L ns') : ns = ns' := by
  rcases h with ⟨b, l, h1, h2, h3, h4, rfl⟩ | ⟨h1, rfl⟩
  · rcases h' with ⟨b', l', k1, k2, k3, k4, rfl⟩ | ⟨k1, rfl⟩
    · have e : b = b' := by
        rcases Int.lt_trichotomy b b' with h | h | h
        · exact absurd h1 (k2 b h)
        · exact h
        · exact absurd k1 (h2 b' h)
      subst e
      exact names_same (h3.trans k3.symm) h4 k4
    · exact absurd h1 (k1 b)
  · rcases h' with ⟨b', l', k1, k2, k3, k4, rfl⟩ | ⟨k1, rfl⟩
    · exact absurd k1 (h1 b')
    · rfl

/-! spans longer than all times -/
def bgB (level : Int) (m : Mt) : Bool := decide (m.lv = level ∧ cl m.lo ≤ 0 ∧ cl m.hi ≤ 0)
theorem bg_at (level s : Int) (hs : 9007199254740992 ≤ s) (m : Mt) : stB level (-s) s m = bgB level m := by
  have h1 := cl_in m.lo
  have h2 := cl_in m.hi
  unfold stB bgB
  congr 1
  apply propext
  constructor
  · rintro ⟨a, b, c, d, e⟩; exact ⟨a, by omega, by omega⟩
  · rintro ⟨a, b, c⟩; exact ⟨a, by omega, by omega, by omega, by omega⟩
theorem bg_only {level s nw : Int} {L : List Mt} (hs : 18014398509481986 ≤ s) (hn : nw ≤ 9007199254740992) {b : Int} (h : PB level s nw L b) : b = -s := by
  obtain ⟨⟨t, rfl⟩, h2, h3⟩ := h
  have h4 : (L.filter (stB level (s * t) s)) ≠ [] := fun e => by rw [e] at h2; simp at h2
  obtain ⟨m, hm⟩ := List.exists_mem_of_ne_nil _ h4
  obtain ⟨h5, h6, h7⟩ := (stB_iff _ _ _ _).1 (List.mem_filter.1 hm).2
  have h8 := cl_in m.lo
  have h9 := cl_in m.hi
  have k1 : t < 0 := by
    have : s * t < s * 0 := by rw [Int.mul_zero]; omega
    exact Int.lt_of_mul_lt_mul_left this (by omega)
  have k2 : -2 < t := by
    have : s * (-2) < s * t := by omega
    exact Int.lt_of_mul_lt_mul_left this (by omega)
  obtain rfl : t = -1 := by omega
  omega
def ResB (level nw : Int) (L : List Mt) (ns : List ByteArray) : Prop :=
  (0 ≤ nw ∧ 2 ≤ (L.filter (bgB level)).length ∧ ∃ l : List Mb, l.Perm ((L.filter (bgB level)).map fun m => ((0 : Int), clM m)) ∧ SortedM l ∧ ns = l.map (·.2.nm)) ∨ (¬ (0 ≤ nw ∧ 2 ≤ (L.filter (bgB level)).length) ∧ ns = [])
theorem res_big {level s nw : Int} {L : List Mt} {ns : List ByteArray} (hs : 18014398509481986 ≤ s) (hn : nw ≤ 9007199254740992) (h : Res level s nw L ns) : ResB level nw L ns := by
  have hf : L.filter (stB level (-s) s) = L.filter (bgB level) := List.filter_congr (fun m _ => bg_at level s (by omega) m)
  rcases h with ⟨b, l, h1, -, h3, h4, h5⟩ | ⟨h1, h2⟩
  · have e := bg_only hs hn h1
    subst e
    obtain ⟨-, h6, h7⟩ := h1
    rw [hf] at h3 h6
    exact Or.inl ⟨by omega, h6, l, h3, h4, h5⟩
  · refine Or.inr ⟨fun ⟨h3, h4⟩ => h1 (-s) ⟨⟨-1, by omega⟩, by rw [hf]; exact h4, by omega⟩, h2⟩
theorem resB_one {level nw : Int} {L : List Mt} {ns ns' : List ByteArray} (h : ResB level nw L ns) (h' : ResB level nw L ns') : ns = ns' := by
  rcases h with ⟨h1, h2, l, h3, h4, rfl⟩ | ⟨h1, rfl⟩
  · rcases h' with ⟨k1, k2, l', k3, k4, rfl⟩ | ⟨k1, rfl⟩
    · exact names_same (h3.trans k3.symm) h4 k4
    · exact absurd ⟨h1, h2⟩ k1
  · rcases h' with ⟨k1, k2, l', k3, k4, rfl⟩ | ⟨k1, rfl⟩
    · exact absurd ⟨k1, k2⟩ h1
    · rfl

theorem plan_same {L : List Mt} {nw width : Int} {ns ns' : List ByteArray} (hn : nw ≤ 9007199254740992) (h : PlanOf L nw (wdF width) ns) (h' : PlanRef L nw (min (max width 1) 36028797018963968) ns') : ns = ns' := by
  have hwd : 1 ≤ wdF width := by unfold wdF; omega
  have eq : ∀ (level c : Int), 3 ≤ c → ∀ x y, Res level (c * wdF width) nw L x → Res level (c * min (max width 1) 36028797018963968) nw L y → x = y := fun level c hc x y hx hy => by
    by_cases hw : max width 1 ≤ 9007199254740993
    · have e : wdF width = min (max width 1) 36028797018963968 := by unfold wdF; omega
      rw [e] at hx
      exact res_one hx hy
    · have h1 : 9007199254740993 ≤ wdF width := by unfold wdF; omega
      have h2 : 9007199254740993 ≤ min (max width 1) 36028797018963968 := by omega
      have h3 : 3 * 9007199254740993 ≤ c * wdF width := Int.mul_le_mul hc h1 (by omega) (by omega)
      have h4 : 3 * 9007199254740993 ≤ c * min (max width 1) 36028797018963968 := Int.mul_le_mul hc h2 (by omega) (by omega)
      exact resB_one (res_big (by omega) hn hx) (res_big (by omega) hn hy)
  have hwr : 1 ≤ min (max width 1) 36028797018963968 := by omega
  generalize min (max width 1) 36028797018963968 = wr0 at *
  · have hp : (Res 0 (3 * wdF width) nw L ns ∧ ns ≠ []) ∨ (Res 0 (3 * wdF width) nw L [] ∧ Res 1 (9 * wdF width) nw L ns) := by
      rcases h with ⟨ls, h1, h2, h3, rfl⟩ | ⟨l0, ls, ⟨h1, h2, h3⟩, h4, h5, rfl⟩
      · exact Or.inl ⟨res_prog 0 _ nw L (by omega) ls h1 h2, fun e => h3 (by simpa using e)⟩
      · refine Or.inr ⟨?_, res_prog 1 _ nw L (by omega) ls h4 h5⟩
        have := res_prog 0 (3 * wdF width) nw L (by omega) l0 h1 h2
        rw [h3] at this
        exact this
    have hr : (Res 0 (3 * wr0) nw L ns' ∧ ns' ≠ []) ∨ (Res 0 (3 * wr0) nw L [] ∧ Res 1 (9 * wr0) nw L ns') := by
      rcases h' with ⟨b, out, h1, h2, rfl⟩ | ⟨h0, b, out, h1, h2, rfl⟩ | ⟨h0, h1, rfl⟩
      · refine Or.inl ⟨res_best (by omega) h1 h2, fun e => ?_⟩
        have h3 := h2.2.1.1
        rw [← h1.1.length_eq] at h3
        have h4 : out = [] := by simpa using e
        rw [h4] at h3
        simp at h3
      · exact Or.inr ⟨res_none (by omega) h0, res_best (by omega) h1 h2⟩
      · exact Or.inr ⟨res_none (by omega) h0, res_none (by omega) h1⟩
    rcases hp with ⟨a1, a2⟩ | ⟨a1, a2⟩
    · rcases hr with ⟨b1, b2⟩ | ⟨b1, b2⟩
      · exact eq 0 3 (by omega) _ _ a1 b1
      · exact absurd (eq 0 3 (by omega) _ _ a1 b1) a2
    · rcases hr with ⟨b1, b2⟩ | ⟨b1, b2⟩
      · exact absurd (eq 0 3 (by omega) _ _ a1 b1).symm b2
      · exact eq 1 9 (by omega) _ _ a2 b2

end Go.Proofs.Ytfkahbgphoonaaa
