/- Contracts of the small functions that only compare numbers: isNaN, Compare, Or, rowOrder, l1In, spotWithin, l1Before. No conditions but those typed. -/
import Derived.Test.YtebgcmnajkophaaBase
import Derived.WalkSpells
import Derived.BigGuardPart
import Derived.BigQuiet
import Derived.Handy
import Derived.Deep.RegionHeld3
namespace Go.Proofs.Ytebgcmnajkophaa
open Go.RowKit

theorem isNaN_any (x : Int) (w : World) : Calls Try.prog 77 #[.int .i64 x] w fun e w' => e = .returned (.bool false) ∧ w = w' := by
  go_enter Try.func77, Try.ntmps77
  go_wp2
  go_ret
  exact ⟨by simp, rfl⟩

theorem compare_same (x y : Int) (w : World) : Calls Try.prog 69 #[.int .i64 x, .int .i64 y] w fun e w' => e = .returned (.int .i64 (cmpI x y)) ∧ w = w' := by
  go_enter Try.func69, Try.ntmps69
  go_wp2_with (go_at_call 77; refine (isNaN_any _ _).mono ?_; rintro e w' ⟨rfl, rfl⟩)
  all_goals
    go_ret
    exact ⟨ret_int (by unfold cmpI; split <;> (try split) <;> omega), rfl⟩

theorem l1In_any (n a b : Int) (w : World) : Calls Try.prog 45 #[.int .i64 n, .int .i64 a, .int .i64 b] w (Gives (.bool (decide (a ≤ n ∧ n ≤ b))) w) := by
  go_enter Try.func45, Try.ntmps45
  go_wp2
  all_goals
    go_ret
    exact ⟨ret_bool (by simp; try omega), Below.refl _ _⟩
theorem spotWithin_any (x y f : Int) (w : World) (h0 : 0 ≤ f) (h1 : f ≤ 1000) : Calls Try.prog 47 #[.agg #[.int .i64 x, .int .i64 y], .int .i64 f] w (Gives (.bool (inB x y f)) w) := by
  go_enter Try.func47, Try.ntmps47
  go_wp2
  all_goals
    go_ret
    exact ⟨ret_bool (by rw [Bool.eq_iff_iff]; simp [inB] <;> omega), (Below.refl _ _).alloc (Nat.le_refl _) _⟩
theorem l1Before_any (x y u v : Int) (w : World) : Calls Try.prog 46 #[.agg #[.int .i64 x, .int .i64 y], .agg #[.int .i64 u, .int .i64 v]] w (Gives (.bool (ltB (x, y) (u, v))) w) := by
  go_enter Try.func46, Try.ntmps46
  go_wp2
  all_goals
    go_ret
    refine ⟨ret_bool (by rw [Bool.eq_iff_iff]; simp [ltB] <;> omega), ?_⟩
    exact ((Below.refl _ _).alloc (Nat.le_refl _) _).alloc (by simp) _

theorem or_any (x y : Int) (b off c : Nat) (w : World) (hx : w.cell? ⟨b, off, none⟩ = some (.int .i64 x)) (hy : w.cell? ⟨b, off + 1, none⟩ = some (.int .i64 y)) :
    Calls Try.prog 68 #[.slice (some ⟨b, off, none⟩) 2 c] w (Gives (.int .i64 (orI x y)) w) := by
  by_cases h : x = 0
  · subst h
    by_cases k : y = 0
    · subst k
      go_enter Try.func68, Try.ntmps68
      go_wp2
      go_rounds 3
      all_goals (go_ret; exact ⟨by simp [orI], Below.refl _ _⟩)
    · go_enter Try.func68, Try.ntmps68
      go_wp2
      go_rounds 3
      all_goals (go_ret; exact ⟨by simp [orI], Below.refl _ _⟩)
  · have e : orI x y = x := if_neg h
    rw [e]
    go_enter Try.func68, Try.ntmps68
    go_wp2
    go_rounds 3
    all_goals (go_ret; exact ⟨by simp, Below.refl _ _⟩)
theorem rowOrder_any (x y u v : Int) (w : World) : Calls Try.prog 48 #[.agg #[.int .i64 x, .int .i64 y], .agg #[.int .i64 u, .int .i64 v]] w (Gives (.int .i64 (ordI (x, y) (u, v))) w) := by
  go_enter Try.func48, Try.ntmps48
  go_wp2
  go_region_held3 (fun w' => w'.cell? ⟨w.heap.size, 0, none⟩ = some (.int .i64 x) ∧ w'.cell? ⟨w.heap.size, 1, none⟩ = some (.int .i64 y) ∧ w'.cell? ⟨w.heap.size + 1, 0, none⟩ = some (.int .i64 u) ∧ w'.cell? ⟨w.heap.size + 1, 1, none⟩ = some (.int .i64 v)) (first | (simp [go_sem, World.cell?_alloc_past]; done) | exact ⟨by assumption, by assumption, by assumption, by assumption⟩)
    (first
      | (go_at_call 69; refine (compare_same _ _ _).mono ?_; rintro e w' ⟨rfl, rfl⟩)
      | (go_at_call 68; refine (or_any (cmpI y v) (cmpI x u) _ 0 _ _ ?_ ?_).mono ?_; (simp [go_sem]); (simp [go_sem]); rintro e w' ⟨rfl, hb⟩; have k0 := (hb.cell (p := ⟨w.heap.size, 0, none⟩) (by simp; omega)).trans (show _ = some (Value.int .i64 x) by simp [go_sem, World.cell?_alloc_past]); have k1 := (hb.cell (p := ⟨w.heap.size, 1, none⟩) (by simp; omega)).trans (show _ = some (Value.int .i64 y) by simp [go_sem, World.cell?_alloc_past]); have k2 := (hb.cell (p := ⟨w.heap.size + 1, 0, none⟩) (by simp)).trans (show _ = some (Value.int .i64 u) by simp [go_sem, World.cell?_alloc_past]); have k3 := (hb.cell (p := ⟨w.heap.size + 1, 1, none⟩) (by simp)).trans (show _ = some (Value.int .i64 v) by simp [go_sem, World.cell?_alloc_past])))
  go_wp2
  go_ret
  exact ⟨rfl, (((((Below.refl _ _).alloc (Nat.le_refl _) _).alloc (by simp) _).alloc (by simp; omega) _).drew).trans (hb.mono (by simp; omega))⟩
end Go.Proofs.Ytebgcmnajkophaa
