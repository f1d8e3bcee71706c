/- Series and pieces that come in. -/
import Derived.Test.YtjnjmpfldbkciaaGreatMG7
import Derived.Deep.Slices
import Derived.Deep.Strs
import Derived.ProofKit
import Derived.OpenShut
namespace Go.Proofs.YtjnjmpfldbkciaaGreat
open Go.ChangeShapes Go.WideShapes Go.ChangeAt Go.RowKit
open Go.Deep (open_slice choose_lt)

theorem cellsLb : Tryz.prog.cellsOf 53 = 2 := by kernel_rfl
theorem cellsSm : Tryz.prog.cellsOf 42 = 2 := by kernel_rfl
theorem cellsSr : Tryz.prog.cellsOf 36 = 2 := by kernel_rfl
theorem cellsGn : Tryz.prog.cellsOf 39 = 3 := by kernel_rfl
theorem cellsI : Tryz.prog.cellsOf 3 = 1 := by kernel_rfl
theorem cellsS : Tryz.prog.cellsOf 9 = 1 := by kernel_rfl
theorem cellsF : Tryz.prog.cellsOf 40 = 1 := by kernel_rfl
theorem cellsLs : Tryz.prog.cellsOf 33 = 1 := by kernel_rfl
theorem cellsSs : Tryz.prog.cellsOf 34 = 1 := by kernel_rfl

section
variable {H : Type} {enc : TypeId × Value → H} {w : World}

theorem trod_fl {P : Program} {base : Nat} {spare : Nat → Bool} {held : Bool} {fuel : Nat} {t : TypeId} {cs : List Value} {x : DataW H × List MemPlace} {k : FloatKind} (ht : P.underlying t = some (.float k)) (h : DataW.trod enc P w base spare held fuel t cs = some x) : ∃ b, cs = [.float k b] ∧ x = (.lit (.float k b), []) := by
  cases fuel with
  | zero => simp [DataW.trod] at h
  | succ n =>
    unfold DataW.trod at h
    rw [ht] at h
    split at h <;> simp_all

theorem rowAt_of {α : Type} (f : α → List Value) (k : Nat) (hf : ∀ x, (f x).length = k) (l : List α) (b o c : Nat) (hb : b < w.heap.size ∨ l = []) (hc : l.length ≤ c ∧ c ≤ maxLen) (h : ∀ i (hi : i < l.length) j, j < k → w.cell? ⟨b, o + (i * k + j), none⟩ = (f l[i])[j]?) : RowAt w (.slice (some ⟨b, o, none⟩) l.length c) k l.length (l.flatMap f) := by
  refine ⟨_, c, rfl, hc, flat_len f k hf l, fun j u hu => ?_⟩
  have hj := (List.getElem?_eq_some_iff.1 hu).1
  rw [flat_len f k hf] at hj
  have hk : 0 < k := Nat.pos_of_ne_zero (fun e => by subst e; simp at hj)
  have hi : j / k < l.length := Nat.div_lt_of_lt_mul (by rw [Nat.mul_comm]; exact hj)
  have hm : j % k < k := Nat.mod_lt _ hk
  have e : j / k * k + j % k = j := by rw [Nat.mul_comm]; exact Nat.div_add_mod j k
  have h1 := flat_at f k hf l (j / k) hi (j % k) hm
  rw [e, hu] at h1
  have h2 := h (j / k) hi (j % k) hm
  rw [e, ← h1] at h2
  refine ⟨b, o, rfl, ?_, h2⟩
  rcases hb with hb | hb
  · exact hb
  · subst hb
    simp at hi

theorem slice_came {α : Type} [Inhabited α] {T E : TypeId} {k : Nat} (f : α → List Value) (hf : ∀ x, (f x).length = k) (hk : 0 < k) (hT : Tryz.prog.underlying T = some (.slice E)) (hE : Tryz.prog.cellsOf E = k) (P : α → Prop)
    (hel : ∀ n cs x, cs.length = k → DataW.trod enc Tryz.prog w 0 (fun _ => true) true n E cs = some x → ∃ a : α, f a = cs ∧ P a) {n : Nat} {c : Value} {x : DataW H × List MemPlace} (h : DataW.trod enc Tryz.prog w 0 (fun _ => true) true n T [c] = some x) : ∃ l : List α, RowAt w c k l.length (l.flatMap f) ∧ ∀ a ∈ l, P a := by
  rcases open_slice hT h with ⟨hcs, _⟩ | ⟨x, l, cap, m, n', D, Pl, hcs, _, hl, hm, hmm, hx, hel'⟩
  · simp at hcs
    subst hcs
    exact ⟨[], ⟨none, 0, rfl, ⟨Nat.le_refl _, Nat.zero_le _⟩, by simp, fun j u hu => by simp at hu⟩, fun a ha => by simp at ha⟩
  · simp at hcs
    subst hcs
    simp at hmm
    rcases Nat.eq_zero_or_pos l with h0 | h0
    · subst h0
      exact ⟨[], ⟨some x, cap, rfl, ⟨Nat.zero_le _, hm⟩, by simp, fun j u hu => by simp at hu⟩, fun a ha => by simp at ha⟩
    · obtain ⟨b, o, spot⟩ := x
      have hsp : spot = none := by
        obtain ⟨cs, hc, _⟩ := hel' 0 (by omega)
        obtain ⟨_, hlen, hcell⟩ := World.cells?_some hc
        rw [hE] at hlen hcell
        have h1 := hcell 0 (by omega)
        have e : ((⟨b, o, spot⟩ : Addr).add (0 * k)).add 0 = ⟨b, o, spot⟩ := by simp [Addr.add]
        rw [e, List.getElem?_eq_getElem (by omega)] at h1
        exact World.cell?_spot h1
      subst hsp
      have key : ∀ i, i < l → ∃ a : α, (∀ j, j < k → w.cell? ⟨b, o + (i * k + j), none⟩ = (f a)[j]?) ∧ P a := fun i hi => by
        obtain ⟨cs, hc, ht⟩ := hel' i (by omega)
        obtain ⟨_, hlen, hcell⟩ := World.cells?_some hc
        rw [hE] at hlen hcell
        obtain ⟨a, ha, hP⟩ := hel n' cs _ hlen ht
        refine ⟨a, fun j hj => ?_, hP⟩
        have := hcell j hj
        rw [add_plain, add_plain, Nat.add_assoc] at this
        rw [ha]
        exact this
      obtain ⟨F, hF⟩ := choose_lt key
      have hll : ((List.range l).map F).length = l := by simp
      have hblk : b < w.heap.size := by
        obtain ⟨h1, -⟩ := hF 0 h0
        have h2 := h1 0 hk
        rw [List.getElem?_eq_getElem (by rw [hf]; exact hk)] at h2
        exact World.block_lt_of_cell? w _ h2
      refine ⟨(List.range l).map F, ?_, fun a ha => ?_⟩
      · have := rowAt_of (w := w) f k hf ((List.range l).map F) b o cap (Or.inl hblk) ⟨by rw [hll]; exact hl, hm⟩ (fun i hi j hj => by
          rw [hll] at hi
          simp only [List.getElem_map, List.getElem_range]
          exact (hF i hi).1 j hj)
        rw [hll] at this ⊢
        exact this
      · obtain ⟨i, hi, rfl⟩ := List.mem_map.1 ha
        exact (hF i (List.mem_range.1 hi)).2

instance : Inhabited Gn := ⟨⟨.slice none 0 0, [], 0, 0⟩⟩
instance : Inhabited Sr := ⟨⟨.slice none 0 0, [], .slice none 0 0, []⟩⟩
set_option maxRecDepth 100000 in
theorem labs_came {n : Nat} {c : Value} {x : DataW H × List MemPlace} (h : DataW.trod enc Tryz.prog w 0 (fun _ => true) true n 33 [c] = some x) : ∃ ls : List Lb, LbAt w c ls ∧ SizedL ls := by
  haveI : Inhabited Lb := ⟨(ByteArray.empty, ByteArray.empty)⟩
  obtain ⟨ls, h1, h2⟩ := slice_came (α := Lb) (k := 2) (fun e => [.string e.1, .string e.2]) (fun _ => rfl) (by decide) Tryz.underlying33 cellsLb (fun e => e.1.size ≤ maxLen ∧ e.2.size ≤ maxLen) (fun n cs x hlen ht => by
    obtain ⟨xs, m, _, hx, _, hl, hf⟩ := DataW.trod_struct Tryz.underlying53 ht
    match cs, hlen with
    | [v0, v1], _ =>
      match xs, hl with
      | [y0, y1], _ =>
        have t0 := hf 0 _ rfl
        have t1 := hf 1 _ rfl
        simp [cellsS] at t0 t1
        obtain ⟨s0, e0, _, w0⟩ := DataW.trod_string Tryz.underlying9 t0
        obtain ⟨s1, e1, _, w1⟩ := DataW.trod_string Tryz.underlying9 t1
        simp at e0 e1
        subst e0 e1
        exact ⟨(s0, s1), rfl, w0, w1⟩) h
  exact ⟨ls, h1, fun k hk => h2 _ (List.getElem_mem hk)⟩
set_option maxRecDepth 100000 in
theorem smps_came {n : Nat} {c : Value} {x : DataW H × List MemPlace} (h : DataW.trod enc Tryz.prog w 0 (fun _ => true) true n 34 [c] = some x) : ∃ ss : List Sm, SmAt w c ss := by
  haveI : Inhabited Sm := ⟨(0, 0)⟩
  obtain ⟨ss, h1, -⟩ := slice_came (α := Sm) (k := 2) (fun e => [.int .i64 e.1, .float .f64 e.2]) (fun _ => rfl) (by decide) Tryz.underlying34 cellsSm (fun _ => True) (fun n cs x hlen ht => by
    obtain ⟨xs, m, _, hx, _, hl, hf⟩ := DataW.trod_struct Tryz.underlying42 ht
    match cs, hlen with
    | [v0, v1], _ =>
      match xs, hl with
      | [y0, y1], _ =>
        have t0 := hf 0 _ rfl
        have t1 := hf 1 _ rfl
        simp [cellsI, cellsF] at t0 t1
        obtain ⟨s0, e0, _, w0⟩ := DataW.trod_int Tryz.underlying3 t0
        obtain ⟨s1, e1, _⟩ := trod_fl Tryz.underlying40 t1
        simp at e0 e1
        subst e0 e1
        exact ⟨(s0, s1), rfl, trivial⟩) h
  exact ⟨ss, h1⟩
set_option maxRecDepth 100000 in
theorem srs_came {n : Nat} {c : Value} {x : DataW H × List MemPlace} (h : DataW.trod enc Tryz.prog w 0 (fun _ => true) true n 22 [c] = some x) : ∃ l : List Sr, RowAt w c 2 l.length (srC l) ∧ ∀ s ∈ l, SCame w s :=
  slice_came (α := Sr) (k := 2) srV (fun _ => rfl) (by decide) Tryz.underlying22 cellsSr (fun s => SCame w s) (fun n cs x hlen ht => by
    obtain ⟨xs, m, _, hx, _, hl, hf⟩ := DataW.trod_struct Tryz.underlying36 ht
    match cs, hlen with
    | [v0, v1], _ =>
      match xs, hl with
      | [y0, y1], _ =>
        have t0 := hf 0 _ rfl
        have t1 := hf 1 _ rfl
        simp [cellsLs, cellsSs] at t0 t1
        obtain ⟨ls, h1, h2⟩ := labs_came t0
        obtain ⟨ss, h3⟩ := smps_came t1
        exact ⟨⟨v0, ls, v1, ss⟩, rfl, h1, h2, h3⟩) h
set_option maxRecDepth 100000 in
theorem gns_came {n : Nat} {c : Value} {x : DataW H × List MemPlace} (h : DataW.trod enc Tryz.prog w 0 (fun _ => true) true n 23 [c] = some x) : ∃ l : List Gn, RowAt w c 3 l.length (gnC l) ∧ ∀ g ∈ l, GCame w g :=
  slice_came (α := Gn) (k := 3) gnV (fun _ => rfl) (by decide) Tryz.underlying23 cellsGn (fun g => GCame w g) (fun n cs x hlen ht => by
    obtain ⟨xs, m, _, hx, _, hl, hf⟩ := DataW.trod_struct Tryz.underlying39 ht
    match cs, hlen with
    | [v0, v1, v2], _ =>
      match xs, hl with
      | [y0, y1, y2], _ =>
        have t0 := hf 0 _ rfl
        have t1 := hf 1 _ rfl
        have t2 := hf 2 _ rfl
        simp [cellsLs, cellsI] at t0 t1 t2
        obtain ⟨ls, h1, h2⟩ := labs_came t0
        obtain ⟨s1, e1, _, w1⟩ := DataW.trod_int Tryz.underlying3 t1
        obtain ⟨s2, e2, _, w2⟩ := DataW.trod_int Tryz.underlying3 t2
        simp at e1 e2
        subst e1 e2
        have b1 := bounds_i64 w1
        have b2 := bounds_i64 w2
        exact ⟨⟨v0, ls, s1, s2⟩, rfl, h1, h2, b1.1, b1.2, b2.1, b2.2⟩) h
end

end Go.Proofs.YtjnjmpfldbkciaaGreat
