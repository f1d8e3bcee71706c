/- Blocks and members; names. -/
import Derived.Test.YtfkahbgphoonaaaYw1
namespace Go.Proofs.Ytfkahbgphoonaaa
open Go.RowKit Go.Shelf Go.Maps Go.Sort

/-- A block as it is planned. -/
structure Mt where
  nm : ByteArray
  lo : Int
  hi : Int
  lv : Int
abbrev Mb := Int × Mt
def mtV (e : Mt) : List Value := [.string e.nm, .int .i64 e.lo, .int .i64 e.hi, .int .i64 e.lv]
def mbV (e : Mb) : List Value := [.int .i64 e.1, .string e.2.nm, .int .i64 e.2.lo, .int .i64 e.2.hi, .int .i64 e.2.lv]
def mtC (l : List Mt) : List Value := l.flatMap mtV
def mbC (l : List Mb) : List Value := l.flatMap mbV
def stC (l : List ByteArray) : List Value := l.map Value.string
theorem flat_length {α : Type} (f : α → List Value) (n : Nat) (hf : ∀ x, (f x).length = n) (l : List α) : (l.flatMap f).length = l.length * n := by
  induction l with
  | nil => simp
  | cons a r ih => rw [List.flatMap_cons, List.length_append, ih, hf, List.length_cons, Nat.add_mul]; omega
theorem flat_at {α : Type} (f : α → List Value) (n : Nat) (hf : ∀ x, (f x).length = n) (l : List α) (k : Nat) (hk : k < l.length) (j : Nat) (hj : j < n) : (l.flatMap f)[k * n + j]? = (f l[k])[j]? := by
  induction l generalizing k with
  | nil => simp at hk
  | cons c r ih =>
    rw [List.flatMap_cons]
    cases k with
    | zero => rw [List.getElem?_append_left (by rw [hf]; omega)]; simp
    | succ k =>
      have h := ih k (by simpa using hk)
      rw [List.getElem?_append_right (by rw [hf, Nat.add_mul]; omega), hf, show (k + 1) * n + j - n = k * n + j by rw [Nat.add_mul]; omega, h]
      simp
theorem mbC_length (l : List Mb) : (mbC l).length = l.length * 5 := flat_length mbV 5 (fun _ => rfl) l
theorem mtC_length (l : List Mt) : (mtC l).length = l.length * 4 := flat_length mtV 4 (fun _ => rfl) l
theorem mbC_one (l : List Mb) : ∀ u ∈ mbC l, u.oneCell' = true := fun u hu => by
  simp only [mbC, mbV, List.mem_flatMap] at hu
  obtain ⟨x, _, hx⟩ := hu
  simp at hx
  rcases hx with rfl | rfl | rfl | rfl | rfl <;> rfl
theorem mtC_one (l : List Mt) : ∀ u ∈ mtC l, u.oneCell' = true := fun u hu => by
  simp only [mtC, mtV, List.mem_flatMap] at hu
  obtain ⟨x, _, hx⟩ := hu
  simp at hx
  rcases hx with rfl | rfl | rfl | rfl <;> rfl
theorem mbC_append (l m : List Mb) : mbC (l ++ m) = mbC l ++ mbC m := by simp [mbC]
theorem mtC_append (l m : List Mt) : mtC (l ++ m) = mtC l ++ mtC m := by simp [mtC]

/-- A slice that reads as blocks, as members. -/
def MtAt (w : World) (v : Value) (l : List Mt) : Prop := RowAt w v 4 l.length (mtC l)
def MbAt (w : World) (v : Value) (l : List Mb) : Prop := RowAt w v 5 l.length (mbC l)
theorem MbAt.one {w : World} {a : Option Addr} {c : Nat} {l : List Mb} (h : MbAt w (.slice a l.length c) l) (k : Nat) (hk : k < l.length) : ∃ b o, a = some ⟨b, o, none⟩ ∧ ∀ w', Below w.heap.size w w' →
    w'.cell? ⟨b, o + k * 5, none⟩ = some (.int .i64 l[k].1) ∧ w'.cell? ⟨b, o + k * 5 + 1, none⟩ = some (.string l[k].2.nm) ∧ w'.cell? ⟨b, o + k * 5 + 2, none⟩ = some (.int .i64 l[k].2.lo) ∧ w'.cell? ⟨b, o + k * 5 + 3, none⟩ = some (.int .i64 l[k].2.hi) ∧ w'.cell? ⟨b, o + k * 5 + 4, none⟩ = some (.int .i64 l[k].2.lv) := by
  have hat := fun j hj => flat_at mbV 5 (fun _ => rfl) l k hk j hj
  obtain ⟨b, o, e, h0⟩ := RowAt.one h (hat 0 (by decide))
  obtain ⟨b1, o1, e1, h1⟩ := RowAt.one h (hat 1 (by decide))
  obtain ⟨b2, o2, e2, h2⟩ := RowAt.one h (hat 2 (by decide))
  obtain ⟨b3, o3, e3, h3⟩ := RowAt.one h (hat 3 (by decide))
  obtain ⟨b4, o4, e4, h4⟩ := RowAt.one h (hat 4 (by decide))
  subst e
  cases e1; cases e2; cases e3; cases e4
  exact ⟨b, o, rfl, fun w' hb => ⟨h0 w' hb, h1 w' hb, h2 w' hb, h3 w' hb, h4 w' hb⟩⟩
theorem MtAt.one {w : World} {a : Option Addr} {c : Nat} {l : List Mt} (h : MtAt w (.slice a l.length c) l) (k : Nat) (hk : k < l.length) : ∃ b o, a = some ⟨b, o, none⟩ ∧ ∀ w', Below w.heap.size w w' →
    w'.cell? ⟨b, o + k * 4, none⟩ = some (.string l[k].nm) ∧ w'.cell? ⟨b, o + k * 4 + 1, none⟩ = some (.int .i64 l[k].lo) ∧ w'.cell? ⟨b, o + k * 4 + 2, none⟩ = some (.int .i64 l[k].hi) ∧ w'.cell? ⟨b, o + k * 4 + 3, none⟩ = some (.int .i64 l[k].lv) := by
  have hat := fun j hj => flat_at mtV 4 (fun _ => rfl) l k hk j hj
  obtain ⟨b, o, e, h0⟩ := RowAt.one h (hat 0 (by decide))
  obtain ⟨b1, o1, e1, h1⟩ := RowAt.one h (hat 1 (by decide))
  obtain ⟨b2, o2, e2, h2⟩ := RowAt.one h (hat 2 (by decide))
  obtain ⟨b3, o3, e3, h3⟩ := RowAt.one h (hat 3 (by decide))
  subst e
  cases e1; cases e2; cases e3
  exact ⟨b, o, rfl, fun w' hb => ⟨h0 w' hb, h1 w' hb, h2 w' hb, h3 w' hb⟩⟩

theorem namesStep (l : List Mb) (k : Nat) (hk : k < l.length) (z : Value) : (stC ((l.take k).map (·.2.nm)) ++ List.replicate (l.length - k) z).set k (.string l[k].2.nm) = stC ((l.take (k + 1)).map (·.2.nm)) ++ List.replicate (l.length - (k + 1)) z := by
  have hlen : (stC ((l.take k).map (·.2.nm))).length = k := by simp [stC]; omega
  rw [List.set_append_right _ _ (by omega), hlen, Nat.sub_self, show l.length - k = (l.length - (k + 1)) + 1 by omega, List.replicate_succ, List.set_cons_zero, List.take_succ_eq_append_getElem hk, List.map_append]
  unfold stC
  rw [List.map_append, List.append_assoc]
  rfl

set_option maxRecDepth 100000 in
set_option maxHeartbeats 2000000 in
theorem names_any (v : Value) (l : List Mb) (w : World) (h : MbAt w v l) (hl : l.length ≤ 100000) :
    Calls Try.prog 25 #[v] w fun e w' => ∃ a c, e = .returned (.slice a l.length c) ∧ w'.ownsRow w.heap.size 9 1 (.slice a l.length c) l.length (stC (l.map (·.2.nm))) ∧ Below w.heap.size w w' := by
  obtain ⟨a1, c1, rfl, -⟩ := id h
  have HL : Hid (MbAt w (.slice a1 l.length c1) l) := h
  have i0 : (Try.prog.info? 9).map (fun i => (i.zero, i.size, i.bytes)) = some (some (.string ByteArray.empty), 1, 16) := by kernel_rfl
  obtain ⟨i0, hi0, hz0, hz1, hz2⟩ := info_parts i0
  obtain ⟨w0, hmk, hown0, hgrow0⟩ := run_make_full (P := Try.prog) (w := w) w.heap.size 26 9 i0 _ 1 Try.underlying26 hi0 hz0 hz1 .i64 .i64 l.length (by rw [hz2]; omega) (by unfold maxLen; omega) (Nat.le_refl _)
  have HB0 : Hid (Below w.heap.size w w0) := (Below.refl _ _).grown hgrow0 (Nat.le_refl _) (fun k hk => by cases hk)
  have HO0 : Hid (w0.ownsRow w.heap.size 9 1 (.slice (some ⟨w.heap.size, 0, none⟩) l.length l.length) l.length (stC ((l.take 0).map (·.2.nm)) ++ List.replicate (l.length - 0) (.string ByteArray.empty))) := by
    show World.ownsRow _ _ _ _ _ _ _
    have h9 := hown0
    rw [show (Value.string ByteArray.empty).cells = #[Value.string ByteArray.empty] from rfl, toList_madeCells_one, Nat.mul_one] at h9
    simpa [stC] using h9
  clear h hown0 hgrow0 hz0 hz1 hz2 hi0
  go_enter Try.func25, Try.ntmps25
  go_wp2
  go_loopw [11] (fun i wr => ∃ (k : Nat), k ≤ l.length ∧ i = .int .i64 k ∧ Hid (wr.ownsRow w.heap.size 9 1 (.slice (some ⟨w.heap.size, 0, none⟩) l.length l.length) l.length (stC ((l.take k).map (·.2.nm)) ++ List.replicate (l.length - k) (.string ByteArray.empty))) ∧ Hid (Below w.heap.size w wr)) (fun i _ => l.length - (intOf i).toNat)
  case atStart => exact ⟨0, Nat.zero_le _, rfl, HO0.out, HB0.out⟩
  case round =>
    obtain ⟨k, hk, rfl, hrow, hbel⟩ := hrel
    have hsw := hbel.out.size
    by_cases hlt : k < l.length
    · obtain ⟨b0, o0, e0, hone⟩ := MbAt.one HL.out k hlt
      subst e0
      obtain ⟨g0, g1, g2, g3, g4⟩ := hone wr hbel.out
      have HST : Hid (_ = _) := namesStep l k hlt (.string ByteArray.empty)
      obtain ⟨⟨u0, q0⟩, f0⟩ := row_cell hrow.out (j := k) (by omega)
      have hgs : w.heap.size < wr.heap.size := (World.ownsRow.lt hrow.out w.heap.size rfl).2
      generalize l[k] = m at *
      obtain ⟨mb, mn, m1, m2, m3⟩ := m
      dsimp only at g0 g1 g2 g3 g4
      have hkl : (k : Int) < (l.length : Int) := by omega
      clear hone
      go_wp2_with fail
      go_roundw
      case rel =>
        refine ⟨k + 1, by omega, by go_num, ?_, ?_⟩
        · show World.ownsRow _ _ _ _ _ _ _
          rw [← HST.out]
          exact World.ownsRow.alloc (ownsRow_set hrow.out (g := w.heap.size) rfl (i := k) _) _
        · exact (hbel.out.setCell (p := ⟨w.heap.size, k, none⟩) (Nat.le_refl _) _).alloc (by simp [World.setCell]; omega) _
      case measure => simp [intOf]; omega
    · have hke : l.take k = l := List.take_of_length_le (by omega)
      have hk0 : l.length - k = 0 := by omega
      have hkl : ¬ (k : Int) < (l.length : Int) := by omega
      rw [hke, hk0, List.replicate_zero, List.append_nil] at hrow
      go_wp2
      go_ret
      exact ⟨_, _, rfl, hrow.out, hbel.out⟩

end Go.Proofs.Ytfkahbgphoonaaa
