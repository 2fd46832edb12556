/- Go's clear at a slice of the call's own, from a place on; a slice of the call's own, cut. No conditions but those typed. -/
import Derived.Test.YtpdpfjebikdgjaaMem
import Derived.Lib.SliceRun
namespace Go.Proofs.Ytpdpfjebikdgjaa
open Go.RowKit Go.Sort

theorem Owns.cut {w : World} {base g n cap : Nat} {ps : List Sp} (h : Owns w base (.slice (some ⟨g, 0, none⟩) n cap) ps) (k : Nat) (hk : k ≤ ps.length) : Owns w base (.slice (some ⟨g, 0, none⟩) k cap) (ps.take k) := by
  have hn := h.len
  rcases h.2 with ⟨h', _⟩ | ⟨g', cap', cur, h', hb, hg, hnc, hcm, hcs, htake⟩
  · cases h'
  · cases h'
    have hl : (ps.take k).length = k := by rw [List.length_take]; omega
    have hf : (flat (ps.take k)).length = k * 2 := by rw [flat_length, hl]
    unfold Owns
    rw [hl]
    refine ⟨by rw [hf], .inr ⟨g, cap, cur, rfl, hb, hg, by omega, hcm, hcs, ?_⟩⟩
    rw [flat_take, ← htake, List.take_take]
    congr 1
    omega

theorem Owns.past {base g k cap : Nat} {ps : List Sp} : ∀ (vs : List Value) (o : Nat) (w : World), Owns w base (.slice (some ⟨g, 0, none⟩) k cap) ps → k * 2 ≤ o → Owns (w.setCells g o vs) base (.slice (some ⟨g, 0, none⟩) k cap) ps
  | [], _, _, h, _ => h
  | v :: vs, o, w, h, ho => by
    have hn := h.len
    subst hn
    refine Owns.past vs (o + 1) (w.setCell ⟨g, o, none⟩ v) ?_ (by omega)
    have h1 := (World.ownsRow.stored h o v).1
    rw [List.set_eq_of_length_le (by rw [flat_length]; exact ho)] at h1
    exact h1
theorem below_setCells {B g : Nat} {w0 : World} (hg : B ≤ g) : ∀ (vs : List Value) (o : Nat) (w : World), Below B w0 w → Below B w0 (w.setCells g o vs)
  | [], _, _, h => h
  | v :: vs, o, _, h => below_setCells hg vs (o + 1) _ (h.setCell (p := ⟨g, o, none⟩) hg v)

theorem run_clear_spots {w : World} {base g n cap : Nat} {ps : List Sp} (h : Owns w base (.slice (some ⟨g, 0, none⟩) n cap) ps) (k c : Nat) (hk : k < ps.length) (off : Nat) (hoff : off = k * 2) :
    ∃ w', (∀ ty, (Builtin.clear_ #[32] ty #[.slice (some ⟨g, off, none⟩) (n - k) c]).run Try.prog w = .ok (.tuple #[]) w') ∧ Owns w' base (.slice (some ⟨g, 0, none⟩) k cap) (ps.take k) ∧ (∀ B w0, B ≤ g → Below B w0 w → Below B w0 w') := by
  subst hoff
  have hn := h.len
  subst hn
  refine ⟨w.setCells g (k * 2) (Builtin.zeroCells (Value.agg #[.int .i64 0, .int .i64 0]).cells (ps.length - k)).toList, fun ty => ?_, Owns.past _ _ _ (h.cut k (by omega)) (Nat.le_refl _), fun B w0 hB hb => below_setCells hB _ _ _ hb⟩
  have hsz : (Builtin.zeroCells (Value.agg #[.int .i64 0, .int .i64 0]).cells (ps.length - k)).toList.length = (ps.length - k) * 2 := by
    simp [Builtin.zeroCells, Value.cells]
  have hst := run_storeCells_cells (P := Try.prog) g (k * 2) (Builtin.zeroCells (Value.agg #[.int .i64 0, .int .i64 0]).cells (ps.length - k)).toList 0 w (fun j hj => ?_) (fun j _ => h.free _) (fun v hv => ?_)
  · simp only [Nat.add_zero] at hst
    obtain ⟨m, hm⟩ : ∃ m, ps.length - k = m + 1 := ⟨ps.length - k - 1, by omega⟩
    rw [hm] at hst ⊢
    simp [Builtin.clear_, run_underlying Try.underlying32, hst]
  · rw [hsz] at hj
    obtain ⟨x, y, _, c0, c1⟩ := h.there (k := k + j / 2) (by omega)
    rcases Nat.mod_two_eq_zero_or_one j with e | e
    · rw [show k * 2 + 0 + j = (k + j / 2) * 2 by omega, c0]; rfl
    · rw [show k * 2 + 0 + j = (k + j / 2) * 2 + 1 by omega, c1]; rfl
  · obtain ⟨i, _, hi⟩ : ∃ i, i < (ps.length - k) * 2 ∧ (#[Value.int .i64 0, .int .i64 0] : Array Value)[i % 2]! = v := by simpa [Builtin.zeroCells, Value.cells] using hv
    rcases Nat.mod_two_eq_zero_or_one i with e | e <;> rw [e] at hi <;> rw [← hi] <;> rfl
end Go.Proofs.Ytpdpfjebikdgjaa
