/- The laws' own helpers on lists of texts: equal, marked, held. No conditions but those typed. -/
import Derived.Test.YtjncnjcpcmpmcaaDoorEq
import Derived.Test.YtjncnjcpcmpmcaaDoorMark
import Derived.Test.YtjncnjcpcmpmcaaDoorTextO
namespace Go.Proofs.YtjncnjcpcmpmcaaDoor
open Go.RowKit Go.Sort

theorem strZ_at2 {r : List Bs} {k : Nat} {l : Bs} (h : r[k]? = some l) : (strZ r)[k]? = some (strV l) := by unfold strZ; rw [List.getElem?_map, h]; rfl
set_option maxRecDepth 100000 in
set_option maxHeartbeats 400000 in
theorem sameTexts_any (l : List Bs) (v v' : Value) (b b' : Nat) (w : World) (h : VOwns 9 w b v (strZ l)) (h' : VOwns 9 w b' v' (strZ l)) (hl : l.length ≤ 1000000) : Calls Tryd.prog 19 #[v, v'] w (Gives (.bool true) w) := by
  obtain ⟨A, c, rfl, hc, hm, hr⟩ := h.shape
  obtain ⟨A', c', rfl, hc', hm', hr'⟩ := h'.shape
  rw [strZ_len] at hc hr hc' hr' h h' ⊢
  unfold maxLen at hm hm'
  by_cases h0 : l.length = 0
  · rw [h0]
    clear h0 hc hr hc' hr' h h'
    go_enter Tryd.func19, Tryd.ntmps19
    go_wp2
    go_rounds 2
    go_ret
    exact ⟨rfl, Below.refl _ _⟩
  · obtain ⟨g, rfl, hg1, hg2⟩ := hr (by omega)
    obtain ⟨g', rfl, hg1', hg2'⟩ := hr' (by omega)
    clear h0
    have HC := Lib.hid (fun k (hk : k < l.length) => (h.cell (k := k) (by rw [strZ_len]; exact hk)))
    have HC' := Lib.hid (fun k (hk : k < l.length) => (h'.cell (k := k) (by rw [strZ_len]; exact hk)))
    go_enter Tryd.func19, Tryd.ntmps19
    go_wp2
    go_loopw [5] (fun i wr => ∃ k : Nat, k ≤ l.length ∧ i = .int .i64 k ∧ Below w.heap.size w wr) (fun i _ => l.length - (intOf i).toNat)
    case atStart => exact ⟨0, Nat.zero_le _, rfl, Below.refl _ _⟩
    case round =>
      obtain ⟨k, hk, rfl, hbw⟩ := hrel
      have hbs : w.heap.size ≤ wr.heap.size := hbw.size
      by_cases hlt : k < l.length
      · have hxy : (strZ l)[k]? = some (strV l[k]) := strZ_at2 (List.getElem?_eq_getElem hlt)
        obtain ⟨x, hx⟩ : ∃ x, bs l[k] = x := ⟨_, rfl⟩
        rw [show strV l[k] = .string (bs l[k]) from rfl, hx] at hxy
        have d0 := cell_regrown ((hbw.cell (p := ⟨g, k, none⟩) hg2).trans ((HC.out k hlt).trans hxy))
        have d1 := cell_regrown ((hbw.cell (p := ⟨g', k, none⟩) hg2').trans ((HC'.out k hlt).trans hxy))
        clear hxy hx
        go_wp2
        refine wp_region_quiet_below (by kernel_rfl) (by kernel_rfl) ?_
        repeat (go_big_quiet_step (first | fail))
        refine wpQuiet_nil ?_
        intro _ hw'
        obtain ⟨⟨dq, osq⟩, hw''⟩ := hw'
        subst hw''
        go_wp2
        go_roundw
        case rel => exact ⟨k + 1, by omega, by go_num, hbw.trans ((below_regrown _ _ _).mono hbs)⟩
        case measure => simp [intOf]; omega
      · go_wp2
        go_ret
        exact ⟨rfl, hbw⟩

/-! ### marks that are texts -/
def mtB (k : Nat) : Bs := 109 :: natB k
def marksT (n k : Nat) : List Bs := (List.range n).map fun j : Nat => mtB (k + j)
theorem marksT_length (n k : Nat) : (marksT n k).length = n := by unfold marksT; rw [List.length_map, List.length_range]
theorem marksT_at {n j : Nat} (k : Nat) (h : j < n) : (marksT n k)[j]? = some (mtB (k + j)) := by
  unfold marksT
  rw [List.getElem?_map, List.getElem?_range h]; rfl
def AgreeT (p q : List Bs) (k : Nat) : Prop := ∀ j, j < k → p[j]? = q[j]?
theorem agreeT_all {p q : List Bs} (hl : p.length = q.length) (h : AgreeT p q p.length) : p = q := by
  apply List.ext_getElem?
  intro j
  by_cases hj : j < p.length
  · exact h j hj
  · rw [List.getElem?_eq_none (by omega), List.getElem?_eq_none (by omega)]
theorem agreeT_set {p q : List Bs} {k : Nat} {a : Bs} (h : AgreeT p q k) (hk : k < p.length) (hq : q[k]? = some a) : AgreeT (p.set k a) q (k + 1) := fun j hj => by
  by_cases e : j = k
  · subst e; rw [hq, List.getElem?_set]; simp [hk]
  · rw [List.getElem?_set]; simp [show ¬ k = j by omega]; exact h j (by omega)
theorem gBelowT {w w1 w2 : World} {g : Nat} (h : w.grownBy w1 (some g)) (hb : Below w1.heap.size w1 w2) : w.grownBy w2 (some g) :=
  ⟨hb.os.trans h.os, hb.tape.trans h.tape, hb.output.trans h.output, Nat.le_trans h.size hb.size, fun k hk hne => (hb.block k (Nat.lt_of_lt_of_le hk h.size)).trans (h.block k hk hne)⟩
theorem gTransT {w w1 w2 : World} {g : Nat} (h : w.grownBy w1 (some g)) (k : w1.grownBy w2 (some g)) : w.grownBy w2 (some g) :=
  ⟨k.os.trans h.os, k.tape.trans h.tape, k.output.trans h.output, Nat.le_trans h.size k.size, fun i hi hne => (k.block i (Nat.lt_of_lt_of_le hi h.size) hne).trans (h.block i hi hne)⟩
theorem setGrownT (w : World) (g j : Nat) (u : Value) : w.grownBy (w.setCell ⟨g, j, none⟩ u) (some g) := setGrown w g j u
end Go.Proofs.YtjncnjcpcmpmcaaDoor
