/- Marks written into a slice of the call's own, and read back: markSpotS, heldSpotS. No conditions but those typed. -/
import Derived.Test.YtgdifenicjgfjaaCopy
namespace Go.Proofs.Ytgdifenicjgfjaa
open Go.RowKit Go.Sort

/-- the marks from k on -/
def marks : Nat → Int → List Sp
  | 0, _ => []
  | n + 1, k => (k, k + 1) :: marks n (k + 2)
theorem marks_length : ∀ (n : Nat) (k : Int), (marks n k).length = n
  | 0, _ => rfl
  | n + 1, k => by simp [marks, marks_length n]
theorem marks_at : ∀ (n : Nat) (k : Int) (j : Nat), j < n → (marks n k)[j]? = some (k + 2 * j, k + 2 * j + 1)
  | 0, _, j, h => by omega
  | n + 1, k, 0, _ => by simp [marks]
  | n + 1, k, j + 1, h => by
    simp only [marks, List.getElem?_cons_succ]
    rw [marks_at n (k + 2) j (by omega)]
    congr 2 <;> omega

theorem Owns.ne {w1 w2 : World} {b1 b2 : Nat} {v1 v2 : Value} {p1 p2 : List Sp} (h1 : Owns w1 b1 v1 p1) (h2 : Owns w2 b2 v2 p2) (hb : w1.heap.size ≤ b2) : v1.ownBlock = none ∨ v1.ownBlock ≠ v2.ownBlock := by
  cases e1 : v1.ownBlock with
  | none => exact .inl rfl
  | some k1 =>
    refine .inr fun e => ?_
    have l1 := h1.lt k1 e1
    have l2 := h2.lt k1 e.symm
    omega
theorem Owns.ne' {w1 w2 : World} {b1 b2 : Nat} {v1 v2 : Value} {p1 p2 : List Sp} (h1 : Owns w1 b1 v1 p1) (h2 : Owns w2 b2 v2 p2) (hb : w2.heap.size ≤ b1) : v1.ownBlock = none ∨ v1.ownBlock ≠ v2.ownBlock := by
  cases e1 : v1.ownBlock with
  | none => exact .inl rfl
  | some k1 =>
    refine .inr fun e => ?_
    have l1 := h1.lt k1 e1
    have l2 := h2.lt k1 e.symm
    omega
theorem grown2 {w w1 w2 : World} {row : Option Nat} (h : w.grownBy w1 row) (k : w1.grownBy w2 row) : w.grownBy w2 row :=
  ⟨k.os.trans h.os, k.tape.trans h.tape, k.output.trans h.output, Nat.le_trans h.size k.size, fun i hi hne => (k.block i (Nat.lt_of_lt_of_le hi h.size) hne).trans (h.block i hi hne)⟩
theorem grownSet (w : World) (g j : Nat) (u : Value) : w.grownBy (w.setCell ⟨g, j, none⟩ u) (some g) :=
  ⟨rfl, rfl, rfl, by simp [World.setCell], fun k _ hne => Below.heap_setCell w ⟨g, j, none⟩ u k (fun e => hne (by rw [e]))⟩

set_option maxHeartbeats 400000 in
theorem mark_any (ps : List Sp) (v : Value) (base : Nat) (k : Int) (w : World) (h : Owns w base v ps) (hl : ps.length ≤ 1100000) (h0 : 0 ≤ k) (h1 : k ≤ 10000000) :
    Calls Try.prog 24 #[v, .int .i64 k] w fun e w' => e = .returned (.int .i64 (k + 2 * ps.length)) ∧ Owns w' base v (marks ps.length k) ∧ w.grownBy w' v.ownBlock := by
  have hpr := h
  rcases h.2 with ⟨rfl, hz⟩ | ⟨g, cap, cur0, rfl, hb0, hg0, hn0, hc0, _, _⟩
  · have e : ps = [] := List.eq_nil_of_length_eq_zero hz
    subst e
    go_enter Try.func24, Try.ntmps24
    go_wp2
    go_rounds 2
    go_ret
    exact ⟨by simp, hpr, World.grownBy.refl _ _⟩
  · clear hg0
    unfold maxLen at hc0
    go_enter Try.func24, Try.ntmps24
    go_wp2
    go_loopw [1, 5] (fun kk i wr => ∃ (j : Nat) (cur : List Sp), j ≤ ps.length ∧ i = .int .i64 j ∧ kk = .int .i64 (k + 2 * (j : Int)) ∧ cur.length = ps.length ∧ Agree cur (marks ps.length k) j ∧ Owns wr base (.slice (some ⟨g, 0, none⟩) ps.length cap) cur ∧ w.grownBy wr (some g)) (fun _ i _ => ps.length - (intOf i).toNat)
    case atStart => exact ⟨0, ps, Nat.zero_le _, rfl, by simp, rfl, fun j hj => by omega, hpr, World.grownBy.refl _ _⟩
    case round =>
      obtain ⟨j, cur, hj, rfl, rfl, hcl, hag, hown, hgr⟩ := hrel
      have hcl1 : cur.length ≤ ps.length := by omega
      have hcl2 : ps.length ≤ cur.length := by omega
      have hCL := Lib.hid hcl
      clear hcl
      by_cases hlt : j < ps.length
      · have fz := hown.free
        obtain ⟨px, py, _, q0, q1⟩ := hown.there (k := j) (by omega)
        have hM := Lib.hid (marks_at ps.length k j hlt)
        go_wp2
        go_roundw
        case rel => exact ⟨j + 1, cur.set j (k + 2 * (j : Int), k + 2 * (j : Int) + 1), by omega, by go_num, by go_num, by rw [List.length_set]; exact hCL.out, agree_set hag (by omega) hM.out, hown.set j _ _ (by omega), grown2 hgr (grown2 (grownSet _ _ _ _) (grownSet _ _ _ _))⟩
        case measure => simp [intOf]; omega
      · have hE := Lib.hid (agree_all (hCL.out.trans (marks_length _ _).symm) (fun i hi => hag i (by omega)))
        have hjn : j = ps.length := by omega
        have hJ := Lib.hid hjn
        clear hjn
        go_wp2
        go_ret
        exact ⟨by have := hJ.out; rw [this]; rfl, by have e := hE.out; rw [e] at hown; exact hown, hgr⟩

set_option maxHeartbeats 400000 in
theorem held_any (n : Nat) (v : Value) (k : Int) (w : World) (h : Reads w w.heap.size v (marks n k)) (hl : n ≤ 1100000) (h0 : 0 ≤ k) (h1 : k ≤ 10000000) :
    Calls Try.prog 43 #[v, .int .i64 k] w (Gives (.int .i64 (k + 2 * n)) w) := by
  obtain ⟨A, c, rfl, hc, hm, hA, hr⟩ := h.is
  unfold maxLen at hm
  rw [marks_length] at hc ⊢
  by_cases hz : n = 0
  · subst hz
    go_enter Try.func43, Try.ntmps43
    go_wp2
    go_rounds 2
    go_ret
    exact ⟨by simp, Below.refl _ _⟩
  · obtain ⟨b, off, rfl, hb, hcell⟩ := hr (by omega)
    go_enter Try.func43, Try.ntmps43
    go_wp2
    go_loopw [1, 5] (fun kk i wr => ∃ (j : Nat), j ≤ n ∧ i = .int .i64 j ∧ kk = .int .i64 (k + 2 * (j : Int)) ∧ Below w.heap.size w wr) (fun _ i _ => n - (intOf i).toNat)
    case atStart => exact ⟨0, Nat.zero_le _, rfl, by simp, Below.refl _ _⟩
    case round =>
      obtain ⟨j, hj, rfl, rfl, hbw⟩ := hrel
      by_cases hlt : j < n
      · obtain ⟨c0, c1⟩ := hcell j _ _ (marks_at n k j hlt)
        have d0 := (hbw.cell (p := ⟨b, off + j * 2, none⟩) hb).trans c0
        have d1 := (hbw.cell (p := ⟨b, off + j * 2 + 1, none⟩) hb).trans c1
        clear c0 c1
        go_wp2
        go_roundw
        case rel => exact ⟨j + 1, by omega, by go_num, by go_num, hbw⟩
        case measure => simp [intOf]; omega
      · have hjn : j = n := by omega
        have hJ := Lib.hid hjn
        clear hjn
        go_wp2
        go_ret
        exact ⟨by have := hJ.out; rw [this]; rfl, hbw⟩
end Go.Proofs.Ytgdifenicjgfjaa
