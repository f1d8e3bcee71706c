/- How many bytes the document's disk has. -/
import Derived.Test.YtihoccaaecmcfaaR6
namespace Go.Proofs.Ytihoccaaecmcfaa
open Go.RowKit Go.Maps Go.Sort

def lenAt (files : List (Value × List UInt8 × Int)) (i : Int) : Nat := ((files[i.toNat]?).map fun x => x.2.1.length).getD 0
def usedL (files : List (Value × List UInt8 × Int)) (dir : List (ByteArray × Int)) : Nat := (dir.map fun e => lenAt files e.2).sum
theorem usedL_take (files : List (Value × List UInt8 × Int)) (dir : List (ByteArray × Int)) (k : Nat) (hk : k < dir.length) : usedL files (dir.take (k + 1)) = usedL files (dir.take k) + lenAt files dir[k].2 := by
  unfold usedL
  rw [List.take_succ_eq_append_getElem hk, List.map_append, List.sum_append]
  simp
theorem usedL_le (files : List (Value × List UInt8 × Int)) (dir : List (ByteArray × Int)) (k : Nat) : usedL files (dir.take k) ≤ usedL files dir := by
  unfold usedL
  conv => rhs; rw [← List.take_append_drop k dir, List.map_append, List.sum_append]
  omega

/-- Every entry names a file that is there. -/
def Within_ (files : List (Value × List UInt8 × Int)) (dir : List (ByteArray × Int)) : Prop := ∀ e, e ∈ dir → ∃ m : Nat, e.2 = m ∧ m < files.length

theorem row_some {w : World} {base n size : Nat} {e : TypeId} {v : Value} {xs : List Value} (ho : w.ownsRow base e size v n xs) (h : 0 < n) : ∃ g c, v = .slice (some ⟨g, 0, none⟩) n c := by
  rcases ho.2 with ⟨_, e0⟩ | ⟨g, cap, cur, e, _⟩
  · omega
  · exact ⟨g, cap, e⟩

theorem IsRef.file {w : World} {r : Nat} {s : RSt} (h : IsRef w r s) {m : Nat} (hm : m < s.files.length) {g c : Nat} (hg : s.fv = .slice (some ⟨g, 0, none⟩) s.files.length c) :
    w.cell? ⟨g, m * 2, none⟩ = some s.files[m].1 ∧ w.cell? ⟨g, m * 2 + 1, none⟩ = some (.int .i64 s.files[m].2.2) := by
  have hc := h.rF.cells (g := g) (by rw [hg]; rfl)
  have h0 := hc (m * 2 + 0) s.files[m].1 (flat_at rfCell 2 (fun _ => rfl) s.files m hm 0 (by omega))
  have h1 := hc (m * 2 + 1) (.int .i64 s.files[m].2.2) (flat_at rfCell 2 (fun _ => rfl) s.files m hm 1 (by omega))
  rw [Addr.add_lit, Nat.zero_add] at h0 h1
  exact ⟨h0, h1⟩
theorem IsRef.entry {w : World} {r : Nat} {s : RSt} (h : IsRef w r s) {m : Nat} (hm : m < s.dir.length) {g c : Nat} (hg : s.dv = .slice (some ⟨g, 0, none⟩) s.dir.length c) :
    w.cell? ⟨g, m * 2, none⟩ = some (.string s.dir[m].1) ∧ w.cell? ⟨g, m * 2 + 1, none⟩ = some (.int .i64 s.dir[m].2) := by
  have hc := h.rD.cells (g := g) (by rw [hg]; rfl)
  have h0 := hc _ _ (entCells_at s.dir m hm).1
  have h1 := hc _ _ (entCells_at s.dir m hm).2
  rw [Addr.add_lit, Nat.zero_add] at h0 h1
  exact ⟨h0, h1⟩

set_option maxRecDepth 100000 in
set_option maxHeartbeats 2000000 in
theorem refUsed_any {w : World} {r : Nat} {s : RSt} (h : IsRef w r s) (hw : Within_ s.files s.dir) (hl : s.dir.length ≤ 1000000000) (hu : usedL s.files s.dir ≤ 1000000000000) :
    Calls Try.prog 41 #[.pointer (some ⟨r, 0, none⟩)] w fun e w' => e = .returned (.int .i64 (usedL s.files s.dir)) ∧ ∃ q, w' = w.drewN q := by
  obtain ⟨c0, c1, c2, c3, c4, c5, c6, c7, cf⟩ := h.at_.cells
  obtain ⟨da, dc, hdv⟩ := slice_of_row h.rD
  have HD : Hid (s.dv = .slice da s.dir.length dc) := hdv
  rw [hdv] at c2
  clear hdv
  go_enter Try.func41, Try.ntmps41
  go_wp2
  go_loopw [3, 4] (fun n i wr => ∃ k q : Nat, k ≤ s.dir.length ∧ i = .int .i64 k ∧ n = .int .i64 (usedL s.files (s.dir.take k)) ∧ wr = w.drewN q) (fun _ i _ => s.dir.length - (intOf i).toNat)
  case atStart => exact ⟨0, 0, Nat.zero_le _, rfl, rfl, rfl⟩
  case round =>
    obtain ⟨k, q, hk, rfl, rfl, rfl⟩ := hrel
    by_cases hlt : k < s.dir.length
    · obtain ⟨g, c, hg⟩ := row_some h.rD (by omega)
      have e1 := HD.out
      rw [hg] at e1
      simp at e1
      obtain ⟨rfl, rfl⟩ := e1
      obtain ⟨m, hm, hml⟩ := hw _ (List.getElem_mem hlt)
      obtain ⟨g2, cc2, hg2⟩ := row_some h.rF (by omega)
      obtain ⟨x0, x1⟩ := h.entry hlt hg
      obtain ⟨y0, y1⟩ := h.file hml hg2
      obtain ⟨va, vc, hv, _⟩ := (h.bytes _ (List.getElem_mem hml)).at_.shape
      rw [hv] at y0
      rw [hm] at x1
      rw [hg2] at c1
      have HS := usedL_take s.files s.dir k hlt
      have hle := usedL_le s.files s.dir (k + 1)
      have hLA : lenAt s.files s.dir[k].2 = s.files[m].2.1.length := by
        unfold lenAt
        rw [hm]
        simp [hml]
      rw [hLA] at HS
      have HS' : Hid (usedL s.files (s.dir.take (k + 1)) = usedL s.files (s.dir.take k) + s.files[m].2.1.length) := HS
      clear hLA hv hm
      rw [HS] at hle
      clear HS
      generalize s.files[m].2.1.length = bl at *
      generalize usedL s.files (s.dir.take k) = ul at *
      go_wp2
      go_quiet (fail)
      go_wp2
      go_round
      case rel => exact ⟨k + 1, q + nq, by omega, by go_num, by rw [HS'.out]; go_num, by first | rfl | rw [World.drewN_drewN]⟩
      case measure => simp [intOf]; omega
    · have e : k = s.dir.length := by omega
      subst e
      rw [List.take_length]
      go_wp2
      go_ret
      exact ⟨rfl, q, rfl⟩

end Go.Proofs.Ytihoccaaecmcfaa
