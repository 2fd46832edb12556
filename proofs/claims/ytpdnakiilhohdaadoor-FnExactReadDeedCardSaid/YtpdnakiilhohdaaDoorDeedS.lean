/- The model's texts of deeds. No conditions but those typed. -/
import Derived.Test.YtpdnakiilhohdaaDoorDeedQ
import Derived.Test.YtpdnakiilhohdaaDoorCutS
import Derived.Test.YtpdnakiilhohdaaDoorTextS
import Derived.Test.YtpdnakiilhohdaaDoorDeedL
import Derived.Test.YtpdnakiilhohdaaDoorPicWalk
import Derived.Deep.RegionHeld3
namespace Go.Proofs.YtpdnakiilhohdaaDoor
open Go.RowKit Go.Sort

theorem cells3_s {w : World} {g : Nat} {a b c : Value} {T : TypeId} (h : w.heap[g]? = some (.cells #[a, b, c] T (0, 0))) : w.cell? ⟨g, 0, none⟩ = some a ∧ w.cell? ⟨g, 1, none⟩ = some b ∧ w.cell? ⟨g, 2, none⟩ = some c := by
  unfold World.cell?
  rw [h]
  exact ⟨rfl, rfl, rfl⟩
theorem numS_is {n : Int} {l : Bs} (h : -1000000 < n ∧ n < 1000000) (hl : numB n = l) (w : World) : Calls Tryd.prog 38 #[.int .i64 n] w (Gives (strV l) w) := by
  subst hl; exact specNumber_any n h w
/-- a deed in a box -/
structure At3D (w : World) (g : Nat) (k x y : Int) : Prop where
  row : w.heap[g]? = some (.cells #[.int .i64 k, .int .i64 x, .int .i64 y] 24 (0, 0))
theorem At3D.lt {w : World} {g : Nat} {k x y : Int} (h : At3D w g k x y) : g < w.heap.size := (Array.getElem?_eq_some_iff.1 h.row).1
theorem At3D.below {w w' : World} {g : Nat} {k x y : Int} (h : At3D w g k x y) (hb : Below w.heap.size w w') : At3D w' g k x y := ⟨(hb.block g h.lt).trans h.row⟩
theorem At3D.c {w : World} {g : Nat} {k x y : Int} (h : At3D w g k x y) : w.cell? ⟨g, 0, none⟩ = some (.int .i64 k) ∧ w.cell? ⟨g, 1, none⟩ = some (.int .i64 x) ∧ w.cell? ⟨g, 2, none⟩ = some (.int .i64 y) := cells3_s h.row
section
variable {P : Program} {ops : Array Oper} {Q : Exit → Act → World → Prop} {md : Region.Mode} {S S' : World → Prop}
/-- more may be said of the worlds that follow -/
theorem heldW (hs : ∀ w, S' w → S w) : ∀ (fuel : Nat) (listed : Array Bool) (a : Act) (w : World), wpAnyH P md ops Q S' fuel listed a w → wpAnyH P md ops Q S fuel listed a w
  | 0, _, _, _, h => h
  | fuel + 1, _, _, _, h => ⟨h.1, fun i hi => wpOp_mono (fun a' w' h' => ⟨hs _ h'.1, heldW hs fuel _ a' w' h'.2⟩) (h.2 i hi)⟩
end
set_option linter.unusedSimpArgs false in
set_option maxRecDepth 100000 in
set_option maxHeartbeats 3200000 in
theorem specDeed0 (x y : Int) (w : World) (hx : -99 ≤ x ∧ x ≤ 99) (hy : -99 ≤ y ∧ y ≤ 99) : Calls Tryd.prog 12 #[.agg #[.int .i64 0, .int .i64 x, .int .i64 y]] w (Gives (strV (([112, 117, 116] : Bs) ++ 32 :: (numB x ++ 32 :: numB y))) w) := by
  obtain ⟨X, hX⟩ : ∃ X, numB x = X := ⟨_, rfl⟩
  have lX : X.length ≤ 3 := by rw [← hX]; exact numB_len99 hx
  obtain ⟨Y, hY⟩ : ∃ Y, numB y = Y := ⟨_, rfl⟩
  have lY : Y.length ≤ 3 := by rw [← hY]; exact numB_len99 hy
  rw [hX, hY]
  have HX := Lib.hid hX
  have HY := Lib.hid hY
  clear hX hY
  have a1 : ∀ W : World, (Op.stringOp .add { data := #[112, 117, 116, 32] } (bs X)).run Tryd.prog W = .ok (.string (bs (([112, 117, 116] : Bs) ++ 32 :: X))) W := fun W => (str_add (([112, 117, 116] : Bs) ++ [32]) X W (by simp; omega)).trans (by rw [List.append_assoc]; rfl)
  have a2 : ∀ W : World, (Op.stringOp .add (bs (([112, 117, 116] : Bs) ++ 32 :: X)) { data := #[32] }).run Tryd.prog W = .ok (.string (bs (([112, 117, 116] : Bs) ++ 32 :: X ++ [32]))) W := add_lit _ 32 (by simp; omega)
  have a3 : ∀ W : World, (Op.stringOp .add (bs (([112, 117, 116] : Bs) ++ 32 :: X ++ [32])) (bs Y)).run Tryd.prog W = .ok (.string (bs (([112, 117, 116] : Bs) ++ 32 :: (X ++ 32 :: Y)))) W := fun W => (add_two _ Y (by simp; omega) (by omega) W).trans (by simp)
  generalize ([112, 117, 116] : Bs) ++ 32 :: X ++ [32] = S2 at a2 a3
  generalize ([112, 117, 116] : Bs) ++ 32 :: X = S1 at a1 a2
  generalize ([112, 117, 116] : Bs) ++ 32 :: (X ++ 32 :: Y) = S3 at a3 ⊢
  obtain ⟨W, hW⟩ : ∃ W, W = w.alloc (.cells #[.int .i64 0, .int .i64 x, .int .i64 y] 24) := ⟨_, rfl⟩
  have bb : Below w.heap.size w W := by rw [hW]; exact box_below _ _ _
  have D : At3D W w.heap.size 0 x y := ⟨by rw [hW]; exact heap_alloc_new _ _⟩
  obtain ⟨p0, p1, p2⟩ := D.c
  go_enter Tryd.func12, Tryd.ntmps12
  go_wp2_with (first | (rw [← hW]; clear hW) | fail)
  refine (inS_lit (c := true) (decide_eq_true hx) _).mono ?_
  rintro e wi ⟨rfl, bn⟩
  replace bb := below_step bb bn
  replace D := D.below bn
  clear p0 p1 p2 bn
  obtain ⟨p0, p1, p2⟩ := D.c
  go_wp2_with (first | (rw [← hW]; clear hW) | fail)
  refine (inS_lit (c := true) (decide_eq_true hy) _).mono ?_
  rintro e wi ⟨rfl, bn⟩
  replace bb := below_step bb bn
  replace D := D.below bn
  clear p0 p1 p2 bn
  obtain ⟨p0, p1, p2⟩ := D.c
  go_wp2_with (first | (rw [← hW]; clear hW) | fail)
  refine (inS_lit (c := true) (by decide) _).mono ?_
  rintro e wi ⟨rfl, bn⟩
  replace bb := below_step bb bn
  replace D := D.below bn
  clear p0 p1 p2 bn
  obtain ⟨p0, p1, p2⟩ := D.c
  go_wp2_with fail
  have D0 := D.below (Below.refl wi.heap.size wi).drew
  have b0 : Below w.heap.size w wi.drew := bb.drew
  refine wp_region_held_drew (S := fun w' => w'.cell? ⟨w.heap.size, 0, none⟩ = some (.int .i64 0) ∧ w'.cell? ⟨w.heap.size, 1, none⟩ = some (.int .i64 x) ∧ w'.cell? ⟨w.heap.size, 2, none⟩ = some (.int .i64 y)) (by kernel_rfl) D0.c (fun hHeld => ?_)
  generalize wi.drew = wd at *
  clear p0 p1 p2 D bb
  refine wpAnyH_take (i := 1) (v := ?_) rfl (by kernel_rfl) (by kernel_rfl) (by kernel_rfl) (fun _ _ _ h => h) (Or.inl ⟨by rfl, ?_⟩) hHeld ?_
  rotate_left
  · (intro w9 hSw; (try dsimp only at hSw); go_simp; (try with_reducible rfl))
  try simp only [Act.put, List.setIfInBounds_toArray, List.set_cons_zero, List.set_cons_succ]
  refine wpAnyH_take (i := 2) (v := ?_) rfl (by kernel_rfl) (by kernel_rfl) (by kernel_rfl) (fun _ _ _ h => h) (Or.inl ⟨by rfl, ?_⟩) hHeld ?_
  rotate_left
  · (intro w9 hSw; (try dsimp only at hSw); go_simp; (try with_reducible rfl))
  try simp only [Act.put, List.setIfInBounds_toArray, List.set_cons_zero, List.set_cons_succ]
  refine wpAnyH_take (i := 5) (v := ?_) rfl (by kernel_rfl) (by kernel_rfl) (by kernel_rfl) (fun _ _ _ h => h) (Or.inl ⟨by rfl, ?_⟩) hHeld ?_
  rotate_left
  · (intro w9 hSw; (try dsimp only at hSw); go_simp; (try with_reducible rfl))
  try simp only [Act.put, List.setIfInBounds_toArray, List.set_cons_zero, List.set_cons_succ]
  refine wpAnyH_take (i := 6) (v := ?_) rfl (by kernel_rfl) (by kernel_rfl) (by kernel_rfl) (fun _ _ _ h => h) (Or.inl ⟨by rfl, ?_⟩) hHeld ?_
  rotate_left
  · (intro w9 hSw; (try dsimp only at hSw); go_simp; (try with_reducible rfl))
  try simp only [Act.put, List.setIfInBounds_toArray, List.set_cons_zero, List.set_cons_succ]
  refine wpAnyH_take (i := 10) (v := ?_) rfl (by kernel_rfl) (by kernel_rfl) (by kernel_rfl) (fun _ _ _ h => h) (Or.inl ⟨by rfl, ?_⟩) hHeld ?_
  rotate_left
  · (intro w9 hSw; (try dsimp only at hSw); go_simp; (try with_reducible rfl))
  try simp only [Act.put, List.setIfInBounds_toArray, List.set_cons_zero, List.set_cons_succ]
  refine wpAnyH_take (i := 11) (v := ?_) rfl (by kernel_rfl) (by kernel_rfl) (by kernel_rfl) (fun _ _ _ h => h) (Or.inl ⟨by rfl, ?_⟩) hHeld ?_
  rotate_left
  · (intro w9 hSw; (try dsimp only at hSw); go_simp; (try with_reducible rfl))
  try simp only [Act.put, List.setIfInBounds_toArray, List.set_cons_zero, List.set_cons_succ]
  refine wpAnyH_ready (rs := [0, 7]) (by kernel_rfl) (by simp) ?_
  refine (AllReadyH.cons rfl (fun K hK => ?_) (AllReadyH.cons rfl (fun K hK => ?_) AllReadyH.nil))
  · skip
    go_simp
    have D1 := D0.below (box_below wd #[.string { data := #[112, 117, 116, 32] }, .string { data := #[116, 97, 107, 101, 32] }, .string { data := #[109, 111, 118, 101, 32] }] 9)
    have b1 := below_step b0 (box_below wd #[.string { data := #[112, 117, 116, 32] }, .string { data := #[116, 97, 107, 101, 32] }, .string { data := #[109, 111, 118, 101, 32] }] 9)
    have r1 : (wd.alloc (.cells #[.string { data := #[112, 117, 116, 32] }, .string { data := #[116, 97, 107, 101, 32] }, .string { data := #[109, 111, 118, 101, 32] }] 9)).heap[wd.heap.size]? = some (.cells #[.string { data := #[112, 117, 116, 32] }, .string { data := #[116, 97, 107, 101, 32] }, .string { data := #[109, 111, 118, 101, 32] }] 9 (0, 0)) := heap_alloc_new wd _
    have l1 : wd.heap.size < (wd.alloc (.cells #[.string { data := #[112, 117, 116, 32] }, .string { data := #[116, 97, 107, 101, 32] }, .string { data := #[109, 111, 118, 101, 32] }] 9)).heap.size := by simp
    refine hK.out _ _ D1.c (fun hHeld => ?_)
    clear hK K
    try simp only [Act.put, List.setIfInBounds_toArray, List.set_cons_zero, List.set_cons_succ]
    generalize wd.alloc (.cells #[.string { data := #[112, 117, 116, 32] }, .string { data := #[116, 97, 107, 101, 32] }, .string { data := #[109, 111, 118, 101, 32] }] 9) = u1 at *
    have c1 := (cells3_s r1).1
    refine heldW (S' := (fun w' => (w'.cell? ⟨w.heap.size, 0, none⟩ = some (.int .i64 0) ∧ w'.cell? ⟨w.heap.size, 1, none⟩ = some (.int .i64 x) ∧ w'.cell? ⟨w.heap.size, 2, none⟩ = some (.int .i64 y)) ∧ w'.cell? ⟨wd.heap.size, 0, none⟩ = some (.string { data := #[112, 117, 116, 32] }))) (fun _ h => h.1) _ _ _ _ ?_
    replace hHeld : (fun w' => (w'.cell? ⟨w.heap.size, 0, none⟩ = some (.int .i64 0) ∧ w'.cell? ⟨w.heap.size, 1, none⟩ = some (.int .i64 x) ∧ w'.cell? ⟨w.heap.size, 2, none⟩ = some (.int .i64 y)) ∧ w'.cell? ⟨wd.heap.size, 0, none⟩ = some (.string { data := #[112, 117, 116, 32] })) u1 := ⟨D1.c, c1⟩
    refine wpAnyH_take (i := 3) (v := ?_) rfl (by kernel_rfl) (by kernel_rfl) (by kernel_rfl) (fun _ _ _ h => h) (Or.inl ⟨by rfl, ?_⟩) hHeld ?_
    rotate_left
    · (intro w9 hSw; (try dsimp only at hSw); go_simp; (try with_reducible rfl))
    try simp only [Act.put, List.setIfInBounds_toArray, List.set_cons_zero, List.set_cons_succ]
    refine wpAnyH_take (i := 4) (v := ?_) rfl (by kernel_rfl) (by kernel_rfl) (by kernel_rfl) (fun _ _ _ h => h) (Or.inl ⟨by rfl, ?_⟩) hHeld ?_
    rotate_left
    · (intro w9 hSw; (try dsimp only at hSw); go_simp; (try with_reducible rfl))
    try simp only [Act.put, List.setIfInBounds_toArray, List.set_cons_zero, List.set_cons_succ]
    refine wpAnyH_ready (rs := [7]) (by kernel_rfl) (by simp) ?_
    refine (AllReadyH.cons rfl (fun K hK => ?_) AllReadyH.nil)
    · skip
      go_simp
      refine (numS_is (by omega) HX.out u1).mono ?_
      rintro e u2 ⟨rfl, bn⟩
      have D2 := D1.below bn
      have b2 := below_step b1 bn
      have r2 := (bn.block _ l1).trans r1
      have l2 := Nat.lt_of_lt_of_le l1 bn.size
      have c2 := (cells3_s r2).1
      dsimp only
      refine hK.out _ _ ⟨D2.c, c2⟩ (fun hHeld => ?_)
      clear hK K bn
      try simp only [Act.put, List.setIfInBounds_toArray, List.set_cons_zero, List.set_cons_succ]
      refine wpAnyH_take (i := 8) (v := ?_) rfl (by kernel_rfl) (by kernel_rfl) (by kernel_rfl) (fun _ _ _ h => h) (Or.inl ⟨by rfl, ?_⟩) hHeld ?_
      rotate_left
      · (intro w9 hSw; (try dsimp only at hSw); go_simp; (try with_reducible rfl))
      try simp only [Act.put, List.setIfInBounds_toArray, List.set_cons_zero, List.set_cons_succ]
      refine wpAnyH_take (i := 9) (v := ?_) rfl (by kernel_rfl) (by kernel_rfl) (by kernel_rfl) (fun _ _ _ h => h) (Or.inl ⟨by rfl, ?_⟩) hHeld ?_
      rotate_left
      · (intro w9 hSw; (try dsimp only at hSw); go_simp; (try with_reducible rfl))
      try simp only [Act.put, List.setIfInBounds_toArray, List.set_cons_zero, List.set_cons_succ]
      refine wpAnyH_ready (rs := [12]) (by kernel_rfl) (by simp) ?_
      refine (AllReadyH.cons rfl (fun K hK => ?_) AllReadyH.nil)
      · skip
        go_simp
        refine (numS_is (by omega) HY.out u2).mono ?_
        rintro e u3 ⟨rfl, bn⟩
        have D3 := D2.below bn
        have b3 := below_step b2 bn
        have r3 := (bn.block _ l2).trans r2
        have l3 := Nat.lt_of_lt_of_le l2 bn.size
        have c3 := (cells3_s r3).1
        dsimp only
        refine hK.out _ _ ⟨D3.c, c3⟩ (fun hHeld => ?_)
        clear hK K bn
        try simp only [Act.put, List.setIfInBounds_toArray, List.set_cons_zero, List.set_cons_succ]
        refine wpAnyH_take (i := 13) (v := ?_) rfl (by kernel_rfl) (by kernel_rfl) (by kernel_rfl) (fun _ _ _ h => h) (Or.inl ⟨by rfl, ?_⟩) hHeld ?_
        rotate_left
        · (intro w9 hSw; (try dsimp only at hSw); go_simp; (try with_reducible rfl))
        try simp only [Act.put, List.setIfInBounds_toArray, List.set_cons_zero, List.set_cons_succ]
        refine wpAnyH_take (i := 14) (v := ?_) rfl (by kernel_rfl) (by kernel_rfl) (by kernel_rfl) (fun _ _ _ h => h) (Or.inl ⟨by rfl, ?_⟩) hHeld ?_
        rotate_left
        · (intro w9 hSw; (try dsimp only at hSw); go_simp; (try with_reducible rfl))
        try simp only [Act.put, List.setIfInBounds_toArray, List.set_cons_zero, List.set_cons_succ]
        refine wpAnyH_done (by kernel_rfl) ?_ _
        go_wp2
        go_ret
        exact ⟨rfl, b3⟩
  · skip
    go_simp
    refine (numS_is (by omega) HX.out wd).mono ?_
    rintro e u4 ⟨rfl, bn⟩
    have D4 := D0.below bn
    have b4 := below_step b0 bn
    dsimp only
    refine hK.out _ _ D4.c (fun hHeld => ?_)
    clear hK K bn
    try simp only [Act.put, List.setIfInBounds_toArray, List.set_cons_zero, List.set_cons_succ]
    refine wpAnyH_ready (rs := [0, 12]) (by kernel_rfl) (by simp) ?_
    refine (AllReadyH.cons rfl (fun K hK => ?_) (AllReadyH.cons rfl (fun K hK => ?_) AllReadyH.nil))
    · skip
      go_simp
      have D5 := D4.below (box_below u4 #[.string { data := #[112, 117, 116, 32] }, .string { data := #[116, 97, 107, 101, 32] }, .string { data := #[109, 111, 118, 101, 32] }] 9)
      have b5 := below_step b4 (box_below u4 #[.string { data := #[112, 117, 116, 32] }, .string { data := #[116, 97, 107, 101, 32] }, .string { data := #[109, 111, 118, 101, 32] }] 9)
      have r5 : (u4.alloc (.cells #[.string { data := #[112, 117, 116, 32] }, .string { data := #[116, 97, 107, 101, 32] }, .string { data := #[109, 111, 118, 101, 32] }] 9)).heap[u4.heap.size]? = some (.cells #[.string { data := #[112, 117, 116, 32] }, .string { data := #[116, 97, 107, 101, 32] }, .string { data := #[109, 111, 118, 101, 32] }] 9 (0, 0)) := heap_alloc_new u4 _
      have l5 : u4.heap.size < (u4.alloc (.cells #[.string { data := #[112, 117, 116, 32] }, .string { data := #[116, 97, 107, 101, 32] }, .string { data := #[109, 111, 118, 101, 32] }] 9)).heap.size := by simp
      refine hK.out _ _ D5.c (fun hHeld => ?_)
      clear hK K
      try simp only [Act.put, List.setIfInBounds_toArray, List.set_cons_zero, List.set_cons_succ]
      generalize u4.alloc (.cells #[.string { data := #[112, 117, 116, 32] }, .string { data := #[116, 97, 107, 101, 32] }, .string { data := #[109, 111, 118, 101, 32] }] 9) = u5 at *
      have c5 := (cells3_s r5).1
      refine heldW (S' := (fun w' => (w'.cell? ⟨w.heap.size, 0, none⟩ = some (.int .i64 0) ∧ w'.cell? ⟨w.heap.size, 1, none⟩ = some (.int .i64 x) ∧ w'.cell? ⟨w.heap.size, 2, none⟩ = some (.int .i64 y)) ∧ w'.cell? ⟨u4.heap.size, 0, none⟩ = some (.string { data := #[112, 117, 116, 32] }))) (fun _ h => h.1) _ _ _ _ ?_
      replace hHeld : (fun w' => (w'.cell? ⟨w.heap.size, 0, none⟩ = some (.int .i64 0) ∧ w'.cell? ⟨w.heap.size, 1, none⟩ = some (.int .i64 x) ∧ w'.cell? ⟨w.heap.size, 2, none⟩ = some (.int .i64 y)) ∧ w'.cell? ⟨u4.heap.size, 0, none⟩ = some (.string { data := #[112, 117, 116, 32] })) u5 := ⟨D5.c, c5⟩
      refine wpAnyH_take (i := 3) (v := ?_) rfl (by kernel_rfl) (by kernel_rfl) (by kernel_rfl) (fun _ _ _ h => h) (Or.inl ⟨by rfl, ?_⟩) hHeld ?_
      rotate_left
      · (intro w9 hSw; (try dsimp only at hSw); go_simp; (try with_reducible rfl))
      try simp only [Act.put, List.setIfInBounds_toArray, List.set_cons_zero, List.set_cons_succ]
      refine wpAnyH_take (i := 4) (v := ?_) rfl (by kernel_rfl) (by kernel_rfl) (by kernel_rfl) (fun _ _ _ h => h) (Or.inl ⟨by rfl, ?_⟩) hHeld ?_
      rotate_left
      · (intro w9 hSw; (try dsimp only at hSw); go_simp; (try with_reducible rfl))
      try simp only [Act.put, List.setIfInBounds_toArray, List.set_cons_zero, List.set_cons_succ]
      refine wpAnyH_take (i := 8) (v := ?_) rfl (by kernel_rfl) (by kernel_rfl) (by kernel_rfl) (fun _ _ _ h => h) (Or.inl ⟨by rfl, ?_⟩) hHeld ?_
      rotate_left
      · (intro w9 hSw; (try dsimp only at hSw); go_simp; (try with_reducible rfl))
      try simp only [Act.put, List.setIfInBounds_toArray, List.set_cons_zero, List.set_cons_succ]
      refine wpAnyH_take (i := 9) (v := ?_) rfl (by kernel_rfl) (by kernel_rfl) (by kernel_rfl) (fun _ _ _ h => h) (Or.inl ⟨by rfl, ?_⟩) hHeld ?_
      rotate_left
      · (intro w9 hSw; (try dsimp only at hSw); go_simp; (try with_reducible rfl))
      try simp only [Act.put, List.setIfInBounds_toArray, List.set_cons_zero, List.set_cons_succ]
      refine wpAnyH_ready (rs := [12]) (by kernel_rfl) (by simp) ?_
      refine (AllReadyH.cons rfl (fun K hK => ?_) AllReadyH.nil)
      · skip
        go_simp
        refine (numS_is (by omega) HY.out u5).mono ?_
        rintro e u6 ⟨rfl, bn⟩
        have D6 := D5.below bn
        have b6 := below_step b5 bn
        have r6 := (bn.block _ l5).trans r5
        have l6 := Nat.lt_of_lt_of_le l5 bn.size
        have c6 := (cells3_s r6).1
        dsimp only
        refine hK.out _ _ ⟨D6.c, c6⟩ (fun hHeld => ?_)
        clear hK K bn
        try simp only [Act.put, List.setIfInBounds_toArray, List.set_cons_zero, List.set_cons_succ]
        refine wpAnyH_take (i := 13) (v := ?_) rfl (by kernel_rfl) (by kernel_rfl) (by kernel_rfl) (fun _ _ _ h => h) (Or.inl ⟨by rfl, ?_⟩) hHeld ?_
        rotate_left
        · (intro w9 hSw; (try dsimp only at hSw); go_simp; (try with_reducible rfl))
        try simp only [Act.put, List.setIfInBounds_toArray, List.set_cons_zero, List.set_cons_succ]
        refine wpAnyH_take (i := 14) (v := ?_) rfl (by kernel_rfl) (by kernel_rfl) (by kernel_rfl) (fun _ _ _ h => h) (Or.inl ⟨by rfl, ?_⟩) hHeld ?_
        rotate_left
        · (intro w9 hSw; (try dsimp only at hSw); go_simp; (try with_reducible rfl))
        try simp only [Act.put, List.setIfInBounds_toArray, List.set_cons_zero, List.set_cons_succ]
        refine wpAnyH_done (by kernel_rfl) ?_ _
        go_wp2
        go_ret
        exact ⟨rfl, b6⟩
    · skip
      go_simp
      refine (numS_is (by omega) HY.out u4).mono ?_
      rintro e u7 ⟨rfl, bn⟩
      have D7 := D4.below bn
      have b7 := below_step b4 bn
      dsimp only
      refine hK.out _ _ D7.c (fun hHeld => ?_)
      clear hK K bn
      try simp only [Act.put, List.setIfInBounds_toArray, List.set_cons_zero, List.set_cons_succ]
      refine wpAnyH_ready (rs := [0]) (by kernel_rfl) (by simp) ?_
      refine (AllReadyH.cons rfl (fun K hK => ?_) AllReadyH.nil)
      · skip
        go_simp
        have D8 := D7.below (box_below u7 #[.string { data := #[112, 117, 116, 32] }, .string { data := #[116, 97, 107, 101, 32] }, .string { data := #[109, 111, 118, 101, 32] }] 9)
        have b8 := below_step b7 (box_below u7 #[.string { data := #[112, 117, 116, 32] }, .string { data := #[116, 97, 107, 101, 32] }, .string { data := #[109, 111, 118, 101, 32] }] 9)
        have r8 : (u7.alloc (.cells #[.string { data := #[112, 117, 116, 32] }, .string { data := #[116, 97, 107, 101, 32] }, .string { data := #[109, 111, 118, 101, 32] }] 9)).heap[u7.heap.size]? = some (.cells #[.string { data := #[112, 117, 116, 32] }, .string { data := #[116, 97, 107, 101, 32] }, .string { data := #[109, 111, 118, 101, 32] }] 9 (0, 0)) := heap_alloc_new u7 _
        have l8 : u7.heap.size < (u7.alloc (.cells #[.string { data := #[112, 117, 116, 32] }, .string { data := #[116, 97, 107, 101, 32] }, .string { data := #[109, 111, 118, 101, 32] }] 9)).heap.size := by simp
        refine hK.out _ _ D8.c (fun hHeld => ?_)
        clear hK K
        try simp only [Act.put, List.setIfInBounds_toArray, List.set_cons_zero, List.set_cons_succ]
        generalize u7.alloc (.cells #[.string { data := #[112, 117, 116, 32] }, .string { data := #[116, 97, 107, 101, 32] }, .string { data := #[109, 111, 118, 101, 32] }] 9) = u8 at *
        have c8 := (cells3_s r8).1
        refine heldW (S' := (fun w' => (w'.cell? ⟨w.heap.size, 0, none⟩ = some (.int .i64 0) ∧ w'.cell? ⟨w.heap.size, 1, none⟩ = some (.int .i64 x) ∧ w'.cell? ⟨w.heap.size, 2, none⟩ = some (.int .i64 y)) ∧ w'.cell? ⟨u7.heap.size, 0, none⟩ = some (.string { data := #[112, 117, 116, 32] }))) (fun _ h => h.1) _ _ _ _ ?_
        replace hHeld : (fun w' => (w'.cell? ⟨w.heap.size, 0, none⟩ = some (.int .i64 0) ∧ w'.cell? ⟨w.heap.size, 1, none⟩ = some (.int .i64 x) ∧ w'.cell? ⟨w.heap.size, 2, none⟩ = some (.int .i64 y)) ∧ w'.cell? ⟨u7.heap.size, 0, none⟩ = some (.string { data := #[112, 117, 116, 32] })) u8 := ⟨D8.c, c8⟩
        refine wpAnyH_take (i := 3) (v := ?_) rfl (by kernel_rfl) (by kernel_rfl) (by kernel_rfl) (fun _ _ _ h => h) (Or.inl ⟨by rfl, ?_⟩) hHeld ?_
        rotate_left
        · (intro w9 hSw; (try dsimp only at hSw); go_simp; (try with_reducible rfl))
        try simp only [Act.put, List.setIfInBounds_toArray, List.set_cons_zero, List.set_cons_succ]
        refine wpAnyH_take (i := 4) (v := ?_) rfl (by kernel_rfl) (by kernel_rfl) (by kernel_rfl) (fun _ _ _ h => h) (Or.inl ⟨by rfl, ?_⟩) hHeld ?_
        rotate_left
        · (intro w9 hSw; (try dsimp only at hSw); go_simp; (try with_reducible rfl))
        try simp only [Act.put, List.setIfInBounds_toArray, List.set_cons_zero, List.set_cons_succ]
        refine wpAnyH_take (i := 8) (v := ?_) rfl (by kernel_rfl) (by kernel_rfl) (by kernel_rfl) (fun _ _ _ h => h) (Or.inl ⟨by rfl, ?_⟩) hHeld ?_
        rotate_left
        · (intro w9 hSw; (try dsimp only at hSw); go_simp; (try with_reducible rfl))
        try simp only [Act.put, List.setIfInBounds_toArray, List.set_cons_zero, List.set_cons_succ]
        refine wpAnyH_take (i := 9) (v := ?_) rfl (by kernel_rfl) (by kernel_rfl) (by kernel_rfl) (fun _ _ _ h => h) (Or.inl ⟨by rfl, ?_⟩) hHeld ?_
        rotate_left
        · (intro w9 hSw; (try dsimp only at hSw); go_simp; (try with_reducible rfl))
        try simp only [Act.put, List.setIfInBounds_toArray, List.set_cons_zero, List.set_cons_succ]
        refine wpAnyH_take (i := 13) (v := ?_) rfl (by kernel_rfl) (by kernel_rfl) (by kernel_rfl) (fun _ _ _ h => h) (Or.inl ⟨by rfl, ?_⟩) hHeld ?_
        rotate_left
        · (intro w9 hSw; (try dsimp only at hSw); go_simp; (try with_reducible rfl))
        try simp only [Act.put, List.setIfInBounds_toArray, List.set_cons_zero, List.set_cons_succ]
        refine wpAnyH_take (i := 14) (v := ?_) rfl (by kernel_rfl) (by kernel_rfl) (by kernel_rfl) (fun _ _ _ h => h) (Or.inl ⟨by rfl, ?_⟩) hHeld ?_
        rotate_left
        · (intro w9 hSw; (try dsimp only at hSw); go_simp; (try with_reducible rfl))
        try simp only [Act.put, List.setIfInBounds_toArray, List.set_cons_zero, List.set_cons_succ]
        refine wpAnyH_done (by kernel_rfl) ?_ _
        go_wp2
        go_ret
        exact ⟨rfl, b8⟩
set_option linter.unusedSimpArgs false in
set_option maxRecDepth 100000 in
set_option maxHeartbeats 3200000 in
theorem specDeed1 (x y : Int) (w : World) (hx : -99 ≤ x ∧ x ≤ 99) (hy : -99 ≤ y ∧ y ≤ 99) : Calls Tryd.prog 12 #[.agg #[.int .i64 1, .int .i64 x, .int .i64 y]] w (Gives (strV (([116, 97, 107, 101] : Bs) ++ 32 :: (numB x ++ 32 :: numB y))) w) := by
  obtain ⟨X, hX⟩ : ∃ X, numB x = X := ⟨_, rfl⟩
  have lX : X.length ≤ 3 := by rw [← hX]; exact numB_len99 hx
  obtain ⟨Y, hY⟩ : ∃ Y, numB y = Y := ⟨_, rfl⟩
  have lY : Y.length ≤ 3 := by rw [← hY]; exact numB_len99 hy
  rw [hX, hY]
  have HX := Lib.hid hX
  have HY := Lib.hid hY
  clear hX hY
  have a1 : ∀ W : World, (Op.stringOp .add { data := #[116, 97, 107, 101, 32] } (bs X)).run Tryd.prog W = .ok (.string (bs (([116, 97, 107, 101] : Bs) ++ 32 :: X))) W := fun W => (str_add (([116, 97, 107, 101] : Bs) ++ [32]) X W (by simp; omega)).trans (by rw [List.append_assoc]; rfl)
  have a2 : ∀ W : World, (Op.stringOp .add (bs (([116, 97, 107, 101] : Bs) ++ 32 :: X)) { data := #[32] }).run Tryd.prog W = .ok (.string (bs (([116, 97, 107, 101] : Bs) ++ 32 :: X ++ [32]))) W := add_lit _ 32 (by simp; omega)
  have a3 : ∀ W : World, (Op.stringOp .add (bs (([116, 97, 107, 101] : Bs) ++ 32 :: X ++ [32])) (bs Y)).run Tryd.prog W = .ok (.string (bs (([116, 97, 107, 101] : Bs) ++ 32 :: (X ++ 32 :: Y)))) W := fun W => (add_two _ Y (by simp; omega) (by omega) W).trans (by simp)
  generalize ([116, 97, 107, 101] : Bs) ++ 32 :: X ++ [32] = S2 at a2 a3
  generalize ([116, 97, 107, 101] : Bs) ++ 32 :: X = S1 at a1 a2
  generalize ([116, 97, 107, 101] : Bs) ++ 32 :: (X ++ 32 :: Y) = S3 at a3 ⊢
  obtain ⟨W, hW⟩ : ∃ W, W = w.alloc (.cells #[.int .i64 1, .int .i64 x, .int .i64 y] 24) := ⟨_, rfl⟩
  have bb : Below w.heap.size w W := by rw [hW]; exact box_below _ _ _
  have D : At3D W w.heap.size 1 x y := ⟨by rw [hW]; exact heap_alloc_new _ _⟩
  obtain ⟨p0, p1, p2⟩ := D.c
  go_enter Tryd.func12, Tryd.ntmps12
  go_wp2_with (first | (rw [← hW]; clear hW) | fail)
  refine (inS_lit (c := true) (decide_eq_true hx) _).mono ?_
  rintro e wi ⟨rfl, bn⟩
  replace bb := below_step bb bn
  replace D := D.below bn
  clear p0 p1 p2 bn
  obtain ⟨p0, p1, p2⟩ := D.c
  go_wp2_with (first | (rw [← hW]; clear hW) | fail)
  refine (inS_lit (c := true) (decide_eq_true hy) _).mono ?_
  rintro e wi ⟨rfl, bn⟩
  replace bb := below_step bb bn
  replace D := D.below bn
  clear p0 p1 p2 bn
  obtain ⟨p0, p1, p2⟩ := D.c
  go_wp2_with (first | (rw [← hW]; clear hW) | fail)
  refine (inS_lit (c := true) (by decide) _).mono ?_
  rintro e wi ⟨rfl, bn⟩
  replace bb := below_step bb bn
  replace D := D.below bn
  clear p0 p1 p2 bn
  obtain ⟨p0, p1, p2⟩ := D.c
  go_wp2_with fail
  have D0 := D.below (Below.refl wi.heap.size wi).drew
  have b0 : Below w.heap.size w wi.drew := bb.drew
  refine wp_region_held_drew (S := fun w' => w'.cell? ⟨w.heap.size, 0, none⟩ = some (.int .i64 1) ∧ w'.cell? ⟨w.heap.size, 1, none⟩ = some (.int .i64 x) ∧ w'.cell? ⟨w.heap.size, 2, none⟩ = some (.int .i64 y)) (by kernel_rfl) D0.c (fun hHeld => ?_)
  generalize wi.drew = wd at *
  clear p0 p1 p2 D bb
  refine wpAnyH_take (i := 1) (v := ?_) rfl (by kernel_rfl) (by kernel_rfl) (by kernel_rfl) (fun _ _ _ h => h) (Or.inl ⟨by rfl, ?_⟩) hHeld ?_
  rotate_left
  · (intro w9 hSw; (try dsimp only at hSw); go_simp; (try with_reducible rfl))
  try simp only [Act.put, List.setIfInBounds_toArray, List.set_cons_zero, List.set_cons_succ]
  refine wpAnyH_take (i := 2) (v := ?_) rfl (by kernel_rfl) (by kernel_rfl) (by kernel_rfl) (fun _ _ _ h => h) (Or.inl ⟨by rfl, ?_⟩) hHeld ?_
  rotate_left
  · (intro w9 hSw; (try dsimp only at hSw); go_simp; (try with_reducible rfl))
  try simp only [Act.put, List.setIfInBounds_toArray, List.set_cons_zero, List.set_cons_succ]
  refine wpAnyH_take (i := 5) (v := ?_) rfl (by kernel_rfl) (by kernel_rfl) (by kernel_rfl) (fun _ _ _ h => h) (Or.inl ⟨by rfl, ?_⟩) hHeld ?_
  rotate_left
  · (intro w9 hSw; (try dsimp only at hSw); go_simp; (try with_reducible rfl))
  try simp only [Act.put, List.setIfInBounds_toArray, List.set_cons_zero, List.set_cons_succ]
  refine wpAnyH_take (i := 6) (v := ?_) rfl (by kernel_rfl) (by kernel_rfl) (by kernel_rfl) (fun _ _ _ h => h) (Or.inl ⟨by rfl, ?_⟩) hHeld ?_
  rotate_left
  · (intro w9 hSw; (try dsimp only at hSw); go_simp; (try with_reducible rfl))
  try simp only [Act.put, List.setIfInBounds_toArray, List.set_cons_zero, List.set_cons_succ]
  refine wpAnyH_take (i := 10) (v := ?_) rfl (by kernel_rfl) (by kernel_rfl) (by kernel_rfl) (fun _ _ _ h => h) (Or.inl ⟨by rfl, ?_⟩) hHeld ?_
  rotate_left
  · (intro w9 hSw; (try dsimp only at hSw); go_simp; (try with_reducible rfl))
  try simp only [Act.put, List.setIfInBounds_toArray, List.set_cons_zero, List.set_cons_succ]
  refine wpAnyH_take (i := 11) (v := ?_) rfl (by kernel_rfl) (by kernel_rfl) (by kernel_rfl) (fun _ _ _ h => h) (Or.inl ⟨by rfl, ?_⟩) hHeld ?_
  rotate_left
  · (intro w9 hSw; (try dsimp only at hSw); go_simp; (try with_reducible rfl))
  try simp only [Act.put, List.setIfInBounds_toArray, List.set_cons_zero, List.set_cons_succ]
  refine wpAnyH_ready (rs := [0, 7]) (by kernel_rfl) (by simp) ?_
  refine (AllReadyH.cons rfl (fun K hK => ?_) (AllReadyH.cons rfl (fun K hK => ?_) AllReadyH.nil))
  · skip
    go_simp
    have D1 := D0.below (box_below wd #[.string { data := #[112, 117, 116, 32] }, .string { data := #[116, 97, 107, 101, 32] }, .string { data := #[109, 111, 118, 101, 32] }] 9)
    have b1 := below_step b0 (box_below wd #[.string { data := #[112, 117, 116, 32] }, .string { data := #[116, 97, 107, 101, 32] }, .string { data := #[109, 111, 118, 101, 32] }] 9)
    have r1 : (wd.alloc (.cells #[.string { data := #[112, 117, 116, 32] }, .string { data := #[116, 97, 107, 101, 32] }, .string { data := #[109, 111, 118, 101, 32] }] 9)).heap[wd.heap.size]? = some (.cells #[.string { data := #[112, 117, 116, 32] }, .string { data := #[116, 97, 107, 101, 32] }, .string { data := #[109, 111, 118, 101, 32] }] 9 (0, 0)) := heap_alloc_new wd _
    have l1 : wd.heap.size < (wd.alloc (.cells #[.string { data := #[112, 117, 116, 32] }, .string { data := #[116, 97, 107, 101, 32] }, .string { data := #[109, 111, 118, 101, 32] }] 9)).heap.size := by simp
    refine hK.out _ _ D1.c (fun hHeld => ?_)
    clear hK K
    try simp only [Act.put, List.setIfInBounds_toArray, List.set_cons_zero, List.set_cons_succ]
    generalize wd.alloc (.cells #[.string { data := #[112, 117, 116, 32] }, .string { data := #[116, 97, 107, 101, 32] }, .string { data := #[109, 111, 118, 101, 32] }] 9) = u1 at *
    have c1 := (cells3_s r1).2.1
    refine heldW (S' := (fun w' => (w'.cell? ⟨w.heap.size, 0, none⟩ = some (.int .i64 1) ∧ w'.cell? ⟨w.heap.size, 1, none⟩ = some (.int .i64 x) ∧ w'.cell? ⟨w.heap.size, 2, none⟩ = some (.int .i64 y)) ∧ w'.cell? ⟨wd.heap.size, 1, none⟩ = some (.string { data := #[116, 97, 107, 101, 32] }))) (fun _ h => h.1) _ _ _ _ ?_
    replace hHeld : (fun w' => (w'.cell? ⟨w.heap.size, 0, none⟩ = some (.int .i64 1) ∧ w'.cell? ⟨w.heap.size, 1, none⟩ = some (.int .i64 x) ∧ w'.cell? ⟨w.heap.size, 2, none⟩ = some (.int .i64 y)) ∧ w'.cell? ⟨wd.heap.size, 1, none⟩ = some (.string { data := #[116, 97, 107, 101, 32] })) u1 := ⟨D1.c, c1⟩
    refine wpAnyH_take (i := 3) (v := ?_) rfl (by kernel_rfl) (by kernel_rfl) (by kernel_rfl) (fun _ _ _ h => h) (Or.inl ⟨by rfl, ?_⟩) hHeld ?_
    rotate_left
    · (intro w9 hSw; (try dsimp only at hSw); go_simp; (try with_reducible rfl))
    try simp only [Act.put, List.setIfInBounds_toArray, List.set_cons_zero, List.set_cons_succ]
    refine wpAnyH_take (i := 4) (v := ?_) rfl (by kernel_rfl) (by kernel_rfl) (by kernel_rfl) (fun _ _ _ h => h) (Or.inl ⟨by rfl, ?_⟩) hHeld ?_
    rotate_left
    · (intro w9 hSw; (try dsimp only at hSw); go_simp; (try with_reducible rfl))
    try simp only [Act.put, List.setIfInBounds_toArray, List.set_cons_zero, List.set_cons_succ]
    refine wpAnyH_ready (rs := [7]) (by kernel_rfl) (by simp) ?_
    refine (AllReadyH.cons rfl (fun K hK => ?_) AllReadyH.nil)
    · skip
      go_simp
      refine (numS_is (by omega) HX.out u1).mono ?_
      rintro e u2 ⟨rfl, bn⟩
      have D2 := D1.below bn
      have b2 := below_step b1 bn
      have r2 := (bn.block _ l1).trans r1
      have l2 := Nat.lt_of_lt_of_le l1 bn.size
      have c2 := (cells3_s r2).2.1
      dsimp only
      refine hK.out _ _ ⟨D2.c, c2⟩ (fun hHeld => ?_)
      clear hK K bn
      try simp only [Act.put, List.setIfInBounds_toArray, List.set_cons_zero, List.set_cons_succ]
      refine wpAnyH_take (i := 8) (v := ?_) rfl (by kernel_rfl) (by kernel_rfl) (by kernel_rfl) (fun _ _ _ h => h) (Or.inl ⟨by rfl, ?_⟩) hHeld ?_
      rotate_left
      · (intro w9 hSw; (try dsimp only at hSw); go_simp; (try with_reducible rfl))
      try simp only [Act.put, List.setIfInBounds_toArray, List.set_cons_zero, List.set_cons_succ]
      refine wpAnyH_take (i := 9) (v := ?_) rfl (by kernel_rfl) (by kernel_rfl) (by kernel_rfl) (fun _ _ _ h => h) (Or.inl ⟨by rfl, ?_⟩) hHeld ?_
      rotate_left
      · (intro w9 hSw; (try dsimp only at hSw); go_simp; (try with_reducible rfl))
      try simp only [Act.put, List.setIfInBounds_toArray, List.set_cons_zero, List.set_cons_succ]
      refine wpAnyH_ready (rs := [12]) (by kernel_rfl) (by simp) ?_
      refine (AllReadyH.cons rfl (fun K hK => ?_) AllReadyH.nil)
      · skip
        go_simp
        refine (numS_is (by omega) HY.out u2).mono ?_
        rintro e u3 ⟨rfl, bn⟩
        have D3 := D2.below bn
        have b3 := below_step b2 bn
        have r3 := (bn.block _ l2).trans r2
        have l3 := Nat.lt_of_lt_of_le l2 bn.size
        have c3 := (cells3_s r3).2.1
        dsimp only
        refine hK.out _ _ ⟨D3.c, c3⟩ (fun hHeld => ?_)
        clear hK K bn
        try simp only [Act.put, List.setIfInBounds_toArray, List.set_cons_zero, List.set_cons_succ]
        refine wpAnyH_take (i := 13) (v := ?_) rfl (by kernel_rfl) (by kernel_rfl) (by kernel_rfl) (fun _ _ _ h => h) (Or.inl ⟨by rfl, ?_⟩) hHeld ?_
        rotate_left
        · (intro w9 hSw; (try dsimp only at hSw); go_simp; (try with_reducible rfl))
        try simp only [Act.put, List.setIfInBounds_toArray, List.set_cons_zero, List.set_cons_succ]
        refine wpAnyH_take (i := 14) (v := ?_) rfl (by kernel_rfl) (by kernel_rfl) (by kernel_rfl) (fun _ _ _ h => h) (Or.inl ⟨by rfl, ?_⟩) hHeld ?_
        rotate_left
        · (intro w9 hSw; (try dsimp only at hSw); go_simp; (try with_reducible rfl))
        try simp only [Act.put, List.setIfInBounds_toArray, List.set_cons_zero, List.set_cons_succ]
        refine wpAnyH_done (by kernel_rfl) ?_ _
        go_wp2
        go_ret
        exact ⟨rfl, b3⟩
  · skip
    go_simp
    refine (numS_is (by omega) HX.out wd).mono ?_
    rintro e u4 ⟨rfl, bn⟩
    have D4 := D0.below bn
    have b4 := below_step b0 bn
    dsimp only
    refine hK.out _ _ D4.c (fun hHeld => ?_)
    clear hK K bn
    try simp only [Act.put, List.setIfInBounds_toArray, List.set_cons_zero, List.set_cons_succ]
    refine wpAnyH_ready (rs := [0, 12]) (by kernel_rfl) (by simp) ?_
    refine (AllReadyH.cons rfl (fun K hK => ?_) (AllReadyH.cons rfl (fun K hK => ?_) AllReadyH.nil))
    · skip
      go_simp
      have D5 := D4.below (box_below u4 #[.string { data := #[112, 117, 116, 32] }, .string { data := #[116, 97, 107, 101, 32] }, .string { data := #[109, 111, 118, 101, 32] }] 9)
      have b5 := below_step b4 (box_below u4 #[.string { data := #[112, 117, 116, 32] }, .string { data := #[116, 97, 107, 101, 32] }, .string { data := #[109, 111, 118, 101, 32] }] 9)
      have r5 : (u4.alloc (.cells #[.string { data := #[112, 117, 116, 32] }, .string { data := #[116, 97, 107, 101, 32] }, .string { data := #[109, 111, 118, 101, 32] }] 9)).heap[u4.heap.size]? = some (.cells #[.string { data := #[112, 117, 116, 32] }, .string { data := #[116, 97, 107, 101, 32] }, .string { data := #[109, 111, 118, 101, 32] }] 9 (0, 0)) := heap_alloc_new u4 _
      have l5 : u4.heap.size < (u4.alloc (.cells #[.string { data := #[112, 117, 116, 32] }, .string { data := #[116, 97, 107, 101, 32] }, .string { data := #[109, 111, 118, 101, 32] }] 9)).heap.size := by simp
      refine hK.out _ _ D5.c (fun hHeld => ?_)
      clear hK K
      try simp only [Act.put, List.setIfInBounds_toArray, List.set_cons_zero, List.set_cons_succ]
      generalize u4.alloc (.cells #[.string { data := #[112, 117, 116, 32] }, .string { data := #[116, 97, 107, 101, 32] }, .string { data := #[109, 111, 118, 101, 32] }] 9) = u5 at *
      have c5 := (cells3_s r5).2.1
      refine heldW (S' := (fun w' => (w'.cell? ⟨w.heap.size, 0, none⟩ = some (.int .i64 1) ∧ w'.cell? ⟨w.heap.size, 1, none⟩ = some (.int .i64 x) ∧ w'.cell? ⟨w.heap.size, 2, none⟩ = some (.int .i64 y)) ∧ w'.cell? ⟨u4.heap.size, 1, none⟩ = some (.string { data := #[116, 97, 107, 101, 32] }))) (fun _ h => h.1) _ _ _ _ ?_
      replace hHeld : (fun w' => (w'.cell? ⟨w.heap.size, 0, none⟩ = some (.int .i64 1) ∧ w'.cell? ⟨w.heap.size, 1, none⟩ = some (.int .i64 x) ∧ w'.cell? ⟨w.heap.size, 2, none⟩ = some (.int .i64 y)) ∧ w'.cell? ⟨u4.heap.size, 1, none⟩ = some (.string { data := #[116, 97, 107, 101, 32] })) u5 := ⟨D5.c, c5⟩
      refine wpAnyH_take (i := 3) (v := ?_) rfl (by kernel_rfl) (by kernel_rfl) (by kernel_rfl) (fun _ _ _ h => h) (Or.inl ⟨by rfl, ?_⟩) hHeld ?_
      rotate_left
      · (intro w9 hSw; (try dsimp only at hSw); go_simp; (try with_reducible rfl))
      try simp only [Act.put, List.setIfInBounds_toArray, List.set_cons_zero, List.set_cons_succ]
      refine wpAnyH_take (i := 4) (v := ?_) rfl (by kernel_rfl) (by kernel_rfl) (by kernel_rfl) (fun _ _ _ h => h) (Or.inl ⟨by rfl, ?_⟩) hHeld ?_
      rotate_left
      · (intro w9 hSw; (try dsimp only at hSw); go_simp; (try with_reducible rfl))
      try simp only [Act.put, List.setIfInBounds_toArray, List.set_cons_zero, List.set_cons_succ]
      refine wpAnyH_take (i := 8) (v := ?_) rfl (by kernel_rfl) (by kernel_rfl) (by kernel_rfl) (fun _ _ _ h => h) (Or.inl ⟨by rfl, ?_⟩) hHeld ?_
      rotate_left
      · (intro w9 hSw; (try dsimp only at hSw); go_simp; (try with_reducible rfl))
      try simp only [Act.put, List.setIfInBounds_toArray, List.set_cons_zero, List.set_cons_succ]
      refine wpAnyH_take (i := 9) (v := ?_) rfl (by kernel_rfl) (by kernel_rfl) (by kernel_rfl) (fun _ _ _ h => h) (Or.inl ⟨by rfl, ?_⟩) hHeld ?_
      rotate_left
      · (intro w9 hSw; (try dsimp only at hSw); go_simp; (try with_reducible rfl))
      try simp only [Act.put, List.setIfInBounds_toArray, List.set_cons_zero, List.set_cons_succ]
      refine wpAnyH_ready (rs := [12]) (by kernel_rfl) (by simp) ?_
      refine (AllReadyH.cons rfl (fun K hK => ?_) AllReadyH.nil)
      · skip
        go_simp
        refine (numS_is (by omega) HY.out u5).mono ?_
        rintro e u6 ⟨rfl, bn⟩
        have D6 := D5.below bn
        have b6 := below_step b5 bn
        have r6 := (bn.block _ l5).trans r5
        have l6 := Nat.lt_of_lt_of_le l5 bn.size
        have c6 := (cells3_s r6).2.1
        dsimp only
        refine hK.out _ _ ⟨D6.c, c6⟩ (fun hHeld => ?_)
        clear hK K bn
        try simp only [Act.put, List.setIfInBounds_toArray, List.set_cons_zero, List.set_cons_succ]
        refine wpAnyH_take (i := 13) (v := ?_) rfl (by kernel_rfl) (by kernel_rfl) (by kernel_rfl) (fun _ _ _ h => h) (Or.inl ⟨by rfl, ?_⟩) hHeld ?_
        rotate_left
        · (intro w9 hSw; (try dsimp only at hSw); go_simp; (try with_reducible rfl))
        try simp only [Act.put, List.setIfInBounds_toArray, List.set_cons_zero, List.set_cons_succ]
        refine wpAnyH_take (i := 14) (v := ?_) rfl (by kernel_rfl) (by kernel_rfl) (by kernel_rfl) (fun _ _ _ h => h) (Or.inl ⟨by rfl, ?_⟩) hHeld ?_
        rotate_left
        · (intro w9 hSw; (try dsimp only at hSw); go_simp; (try with_reducible rfl))
        try simp only [Act.put, List.setIfInBounds_toArray, List.set_cons_zero, List.set_cons_succ]
        refine wpAnyH_done (by kernel_rfl) ?_ _
        go_wp2
        go_ret
        exact ⟨rfl, b6⟩
    · skip
      go_simp
      refine (numS_is (by omega) HY.out u4).mono ?_
      rintro e u7 ⟨rfl, bn⟩
      have D7 := D4.below bn
      have b7 := below_step b4 bn
      dsimp only
      refine hK.out _ _ D7.c (fun hHeld => ?_)
      clear hK K bn
      try simp only [Act.put, List.setIfInBounds_toArray, List.set_cons_zero, List.set_cons_succ]
      refine wpAnyH_ready (rs := [0]) (by kernel_rfl) (by simp) ?_
      refine (AllReadyH.cons rfl (fun K hK => ?_) AllReadyH.nil)
      · skip
        go_simp
        have D8 := D7.below (box_below u7 #[.string { data := #[112, 117, 116, 32] }, .string { data := #[116, 97, 107, 101, 32] }, .string { data := #[109, 111, 118, 101, 32] }] 9)
        have b8 := below_step b7 (box_below u7 #[.string { data := #[112, 117, 116, 32] }, .string { data := #[116, 97, 107, 101, 32] }, .string { data := #[109, 111, 118, 101, 32] }] 9)
        have r8 : (u7.alloc (.cells #[.string { data := #[112, 117, 116, 32] }, .string { data := #[116, 97, 107, 101, 32] }, .string { data := #[109, 111, 118, 101, 32] }] 9)).heap[u7.heap.size]? = some (.cells #[.string { data := #[112, 117, 116, 32] }, .string { data := #[116, 97, 107, 101, 32] }, .string { data := #[109, 111, 118, 101, 32] }] 9 (0, 0)) := heap_alloc_new u7 _
        have l8 : u7.heap.size < (u7.alloc (.cells #[.string { data := #[112, 117, 116, 32] }, .string { data := #[116, 97, 107, 101, 32] }, .string { data := #[109, 111, 118, 101, 32] }] 9)).heap.size := by simp
        refine hK.out _ _ D8.c (fun hHeld => ?_)
        clear hK K
        try simp only [Act.put, List.setIfInBounds_toArray, List.set_cons_zero, List.set_cons_succ]
        generalize u7.alloc (.cells #[.string { data := #[112, 117, 116, 32] }, .string { data := #[116, 97, 107, 101, 32] }, .string { data := #[109, 111, 118, 101, 32] }] 9) = u8 at *
        have c8 := (cells3_s r8).2.1
        refine heldW (S' := (fun w' => (w'.cell? ⟨w.heap.size, 0, none⟩ = some (.int .i64 1) ∧ w'.cell? ⟨w.heap.size, 1, none⟩ = some (.int .i64 x) ∧ w'.cell? ⟨w.heap.size, 2, none⟩ = some (.int .i64 y)) ∧ w'.cell? ⟨u7.heap.size, 1, none⟩ = some (.string { data := #[116, 97, 107, 101, 32] }))) (fun _ h => h.1) _ _ _ _ ?_
        replace hHeld : (fun w' => (w'.cell? ⟨w.heap.size, 0, none⟩ = some (.int .i64 1) ∧ w'.cell? ⟨w.heap.size, 1, none⟩ = some (.int .i64 x) ∧ w'.cell? ⟨w.heap.size, 2, none⟩ = some (.int .i64 y)) ∧ w'.cell? ⟨u7.heap.size, 1, none⟩ = some (.string { data := #[116, 97, 107, 101, 32] })) u8 := ⟨D8.c, c8⟩
        refine wpAnyH_take (i := 3) (v := ?_) rfl (by kernel_rfl) (by kernel_rfl) (by kernel_rfl) (fun _ _ _ h => h) (Or.inl ⟨by rfl, ?_⟩) hHeld ?_
        rotate_left
        · (intro w9 hSw; (try dsimp only at hSw); go_simp; (try with_reducible rfl))
        try simp only [Act.put, List.setIfInBounds_toArray, List.set_cons_zero, List.set_cons_succ]
        refine wpAnyH_take (i := 4) (v := ?_) rfl (by kernel_rfl) (by kernel_rfl) (by kernel_rfl) (fun _ _ _ h => h) (Or.inl ⟨by rfl, ?_⟩) hHeld ?_
        rotate_left
        · (intro w9 hSw; (try dsimp only at hSw); go_simp; (try with_reducible rfl))
        try simp only [Act.put, List.setIfInBounds_toArray, List.set_cons_zero, List.set_cons_succ]
        refine wpAnyH_take (i := 8) (v := ?_) rfl (by kernel_rfl) (by kernel_rfl) (by kernel_rfl) (fun _ _ _ h => h) (Or.inl ⟨by rfl, ?_⟩) hHeld ?_
        rotate_left
        · (intro w9 hSw; (try dsimp only at hSw); go_simp; (try with_reducible rfl))
        try simp only [Act.put, List.setIfInBounds_toArray, List.set_cons_zero, List.set_cons_succ]
        refine wpAnyH_take (i := 9) (v := ?_) rfl (by kernel_rfl) (by kernel_rfl) (by kernel_rfl) (fun _ _ _ h => h) (Or.inl ⟨by rfl, ?_⟩) hHeld ?_
        rotate_left
        · (intro w9 hSw; (try dsimp only at hSw); go_simp; (try with_reducible rfl))
        try simp only [Act.put, List.setIfInBounds_toArray, List.set_cons_zero, List.set_cons_succ]
        refine wpAnyH_take (i := 13) (v := ?_) rfl (by kernel_rfl) (by kernel_rfl) (by kernel_rfl) (fun _ _ _ h => h) (Or.inl ⟨by rfl, ?_⟩) hHeld ?_
        rotate_left
        · (intro w9 hSw; (try dsimp only at hSw); go_simp; (try with_reducible rfl))
        try simp only [Act.put, List.setIfInBounds_toArray, List.set_cons_zero, List.set_cons_succ]
        refine wpAnyH_take (i := 14) (v := ?_) rfl (by kernel_rfl) (by kernel_rfl) (by kernel_rfl) (fun _ _ _ h => h) (Or.inl ⟨by rfl, ?_⟩) hHeld ?_
        rotate_left
        · (intro w9 hSw; (try dsimp only at hSw); go_simp; (try with_reducible rfl))
        try simp only [Act.put, List.setIfInBounds_toArray, List.set_cons_zero, List.set_cons_succ]
        refine wpAnyH_done (by kernel_rfl) ?_ _
        go_wp2
        go_ret
        exact ⟨rfl, b8⟩
set_option linter.unusedSimpArgs false in
set_option maxRecDepth 100000 in
set_option maxHeartbeats 3200000 in
theorem specDeed2 (x y : Int) (w : World) (hx : -99 ≤ x ∧ x ≤ 99) (hy : -99 ≤ y ∧ y ≤ 99) : Calls Tryd.prog 12 #[.agg #[.int .i64 2, .int .i64 x, .int .i64 y]] w (Gives (strV (([109, 111, 118, 101] : Bs) ++ 32 :: (numB x ++ 32 :: numB y))) w) := by
  obtain ⟨X, hX⟩ : ∃ X, numB x = X := ⟨_, rfl⟩
  have lX : X.length ≤ 3 := by rw [← hX]; exact numB_len99 hx
  obtain ⟨Y, hY⟩ : ∃ Y, numB y = Y := ⟨_, rfl⟩
  have lY : Y.length ≤ 3 := by rw [← hY]; exact numB_len99 hy
  rw [hX, hY]
  have HX := Lib.hid hX
  have HY := Lib.hid hY
  clear hX hY
  have a1 : ∀ W : World, (Op.stringOp .add { data := #[109, 111, 118, 101, 32] } (bs X)).run Tryd.prog W = .ok (.string (bs (([109, 111, 118, 101] : Bs) ++ 32 :: X))) W := fun W => (str_add (([109, 111, 118, 101] : Bs) ++ [32]) X W (by simp; omega)).trans (by rw [List.append_assoc]; rfl)
  have a2 : ∀ W : World, (Op.stringOp .add (bs (([109, 111, 118, 101] : Bs) ++ 32 :: X)) { data := #[32] }).run Tryd.prog W = .ok (.string (bs (([109, 111, 118, 101] : Bs) ++ 32 :: X ++ [32]))) W := add_lit _ 32 (by simp; omega)
  have a3 : ∀ W : World, (Op.stringOp .add (bs (([109, 111, 118, 101] : Bs) ++ 32 :: X ++ [32])) (bs Y)).run Tryd.prog W = .ok (.string (bs (([109, 111, 118, 101] : Bs) ++ 32 :: (X ++ 32 :: Y)))) W := fun W => (add_two _ Y (by simp; omega) (by omega) W).trans (by simp)
  generalize ([109, 111, 118, 101] : Bs) ++ 32 :: X ++ [32] = S2 at a2 a3
  generalize ([109, 111, 118, 101] : Bs) ++ 32 :: X = S1 at a1 a2
  generalize ([109, 111, 118, 101] : Bs) ++ 32 :: (X ++ 32 :: Y) = S3 at a3 ⊢
  obtain ⟨W, hW⟩ : ∃ W, W = w.alloc (.cells #[.int .i64 2, .int .i64 x, .int .i64 y] 24) := ⟨_, rfl⟩
  have bb : Below w.heap.size w W := by rw [hW]; exact box_below _ _ _
  have D : At3D W w.heap.size 2 x y := ⟨by rw [hW]; exact heap_alloc_new _ _⟩
  obtain ⟨p0, p1, p2⟩ := D.c
  go_enter Tryd.func12, Tryd.ntmps12
  go_wp2_with (first | (rw [← hW]; clear hW) | fail)
  refine (inS_lit (c := true) (decide_eq_true hx) _).mono ?_
  rintro e wi ⟨rfl, bn⟩
  replace bb := below_step bb bn
  replace D := D.below bn
  clear p0 p1 p2 bn
  obtain ⟨p0, p1, p2⟩ := D.c
  go_wp2_with (first | (rw [← hW]; clear hW) | fail)
  refine (inS_lit (c := true) (decide_eq_true hy) _).mono ?_
  rintro e wi ⟨rfl, bn⟩
  replace bb := below_step bb bn
  replace D := D.below bn
  clear p0 p1 p2 bn
  obtain ⟨p0, p1, p2⟩ := D.c
  go_wp2_with (first | (rw [← hW]; clear hW) | fail)
  refine (inS_lit (c := true) (by decide) _).mono ?_
  rintro e wi ⟨rfl, bn⟩
  replace bb := below_step bb bn
  replace D := D.below bn
  clear p0 p1 p2 bn
  obtain ⟨p0, p1, p2⟩ := D.c
  go_wp2_with fail
  have D0 := D.below (Below.refl wi.heap.size wi).drew
  have b0 : Below w.heap.size w wi.drew := bb.drew
  refine wp_region_held_drew (S := fun w' => w'.cell? ⟨w.heap.size, 0, none⟩ = some (.int .i64 2) ∧ w'.cell? ⟨w.heap.size, 1, none⟩ = some (.int .i64 x) ∧ w'.cell? ⟨w.heap.size, 2, none⟩ = some (.int .i64 y)) (by kernel_rfl) D0.c (fun hHeld => ?_)
  generalize wi.drew = wd at *
  clear p0 p1 p2 D bb
  refine wpAnyH_take (i := 1) (v := ?_) rfl (by kernel_rfl) (by kernel_rfl) (by kernel_rfl) (fun _ _ _ h => h) (Or.inl ⟨by rfl, ?_⟩) hHeld ?_
  rotate_left
  · (intro w9 hSw; (try dsimp only at hSw); go_simp; (try with_reducible rfl))
  try simp only [Act.put, List.setIfInBounds_toArray, List.set_cons_zero, List.set_cons_succ]
  refine wpAnyH_take (i := 2) (v := ?_) rfl (by kernel_rfl) (by kernel_rfl) (by kernel_rfl) (fun _ _ _ h => h) (Or.inl ⟨by rfl, ?_⟩) hHeld ?_
  rotate_left
  · (intro w9 hSw; (try dsimp only at hSw); go_simp; (try with_reducible rfl))
  try simp only [Act.put, List.setIfInBounds_toArray, List.set_cons_zero, List.set_cons_succ]
  refine wpAnyH_take (i := 5) (v := ?_) rfl (by kernel_rfl) (by kernel_rfl) (by kernel_rfl) (fun _ _ _ h => h) (Or.inl ⟨by rfl, ?_⟩) hHeld ?_
  rotate_left
  · (intro w9 hSw; (try dsimp only at hSw); go_simp; (try with_reducible rfl))
  try simp only [Act.put, List.setIfInBounds_toArray, List.set_cons_zero, List.set_cons_succ]
  refine wpAnyH_take (i := 6) (v := ?_) rfl (by kernel_rfl) (by kernel_rfl) (by kernel_rfl) (fun _ _ _ h => h) (Or.inl ⟨by rfl, ?_⟩) hHeld ?_
  rotate_left
  · (intro w9 hSw; (try dsimp only at hSw); go_simp; (try with_reducible rfl))
  try simp only [Act.put, List.setIfInBounds_toArray, List.set_cons_zero, List.set_cons_succ]
  refine wpAnyH_take (i := 10) (v := ?_) rfl (by kernel_rfl) (by kernel_rfl) (by kernel_rfl) (fun _ _ _ h => h) (Or.inl ⟨by rfl, ?_⟩) hHeld ?_
  rotate_left
  · (intro w9 hSw; (try dsimp only at hSw); go_simp; (try with_reducible rfl))
  try simp only [Act.put, List.setIfInBounds_toArray, List.set_cons_zero, List.set_cons_succ]
  refine wpAnyH_take (i := 11) (v := ?_) rfl (by kernel_rfl) (by kernel_rfl) (by kernel_rfl) (fun _ _ _ h => h) (Or.inl ⟨by rfl, ?_⟩) hHeld ?_
  rotate_left
  · (intro w9 hSw; (try dsimp only at hSw); go_simp; (try with_reducible rfl))
  try simp only [Act.put, List.setIfInBounds_toArray, List.set_cons_zero, List.set_cons_succ]
  refine wpAnyH_ready (rs := [0, 7]) (by kernel_rfl) (by simp) ?_
  refine (AllReadyH.cons rfl (fun K hK => ?_) (AllReadyH.cons rfl (fun K hK => ?_) AllReadyH.nil))
  · skip
    go_simp
    have D1 := D0.below (box_below wd #[.string { data := #[112, 117, 116, 32] }, .string { data := #[116, 97, 107, 101, 32] }, .string { data := #[109, 111, 118, 101, 32] }] 9)
    have b1 := below_step b0 (box_below wd #[.string { data := #[112, 117, 116, 32] }, .string { data := #[116, 97, 107, 101, 32] }, .string { data := #[109, 111, 118, 101, 32] }] 9)
    have r1 : (wd.alloc (.cells #[.string { data := #[112, 117, 116, 32] }, .string { data := #[116, 97, 107, 101, 32] }, .string { data := #[109, 111, 118, 101, 32] }] 9)).heap[wd.heap.size]? = some (.cells #[.string { data := #[112, 117, 116, 32] }, .string { data := #[116, 97, 107, 101, 32] }, .string { data := #[109, 111, 118, 101, 32] }] 9 (0, 0)) := heap_alloc_new wd _
    have l1 : wd.heap.size < (wd.alloc (.cells #[.string { data := #[112, 117, 116, 32] }, .string { data := #[116, 97, 107, 101, 32] }, .string { data := #[109, 111, 118, 101, 32] }] 9)).heap.size := by simp
    refine hK.out _ _ D1.c (fun hHeld => ?_)
    clear hK K
    try simp only [Act.put, List.setIfInBounds_toArray, List.set_cons_zero, List.set_cons_succ]
    generalize wd.alloc (.cells #[.string { data := #[112, 117, 116, 32] }, .string { data := #[116, 97, 107, 101, 32] }, .string { data := #[109, 111, 118, 101, 32] }] 9) = u1 at *
    have c1 := (cells3_s r1).2.2
    refine heldW (S' := (fun w' => (w'.cell? ⟨w.heap.size, 0, none⟩ = some (.int .i64 2) ∧ w'.cell? ⟨w.heap.size, 1, none⟩ = some (.int .i64 x) ∧ w'.cell? ⟨w.heap.size, 2, none⟩ = some (.int .i64 y)) ∧ w'.cell? ⟨wd.heap.size, 2, none⟩ = some (.string { data := #[109, 111, 118, 101, 32] }))) (fun _ h => h.1) _ _ _ _ ?_
    replace hHeld : (fun w' => (w'.cell? ⟨w.heap.size, 0, none⟩ = some (.int .i64 2) ∧ w'.cell? ⟨w.heap.size, 1, none⟩ = some (.int .i64 x) ∧ w'.cell? ⟨w.heap.size, 2, none⟩ = some (.int .i64 y)) ∧ w'.cell? ⟨wd.heap.size, 2, none⟩ = some (.string { data := #[109, 111, 118, 101, 32] })) u1 := ⟨D1.c, c1⟩
    refine wpAnyH_take (i := 3) (v := ?_) rfl (by kernel_rfl) (by kernel_rfl) (by kernel_rfl) (fun _ _ _ h => h) (Or.inl ⟨by rfl, ?_⟩) hHeld ?_
    rotate_left
    · (intro w9 hSw; (try dsimp only at hSw); go_simp; (try with_reducible rfl))
    try simp only [Act.put, List.setIfInBounds_toArray, List.set_cons_zero, List.set_cons_succ]
    refine wpAnyH_take (i := 4) (v := ?_) rfl (by kernel_rfl) (by kernel_rfl) (by kernel_rfl) (fun _ _ _ h => h) (Or.inl ⟨by rfl, ?_⟩) hHeld ?_
    rotate_left
    · (intro w9 hSw; (try dsimp only at hSw); go_simp; (try with_reducible rfl))
    try simp only [Act.put, List.setIfInBounds_toArray, List.set_cons_zero, List.set_cons_succ]
    refine wpAnyH_ready (rs := [7]) (by kernel_rfl) (by simp) ?_
    refine (AllReadyH.cons rfl (fun K hK => ?_) AllReadyH.nil)
    · skip
      go_simp
      refine (numS_is (by omega) HX.out u1).mono ?_
      rintro e u2 ⟨rfl, bn⟩
      have D2 := D1.below bn
      have b2 := below_step b1 bn
      have r2 := (bn.block _ l1).trans r1
      have l2 := Nat.lt_of_lt_of_le l1 bn.size
      have c2 := (cells3_s r2).2.2
      dsimp only
      refine hK.out _ _ ⟨D2.c, c2⟩ (fun hHeld => ?_)
      clear hK K bn
      try simp only [Act.put, List.setIfInBounds_toArray, List.set_cons_zero, List.set_cons_succ]
      refine wpAnyH_take (i := 8) (v := ?_) rfl (by kernel_rfl) (by kernel_rfl) (by kernel_rfl) (fun _ _ _ h => h) (Or.inl ⟨by rfl, ?_⟩) hHeld ?_
      rotate_left
      · (intro w9 hSw; (try dsimp only at hSw); go_simp; (try with_reducible rfl))
      try simp only [Act.put, List.setIfInBounds_toArray, List.set_cons_zero, List.set_cons_succ]
      refine wpAnyH_take (i := 9) (v := ?_) rfl (by kernel_rfl) (by kernel_rfl) (by kernel_rfl) (fun _ _ _ h => h) (Or.inl ⟨by rfl, ?_⟩) hHeld ?_
      rotate_left
      · (intro w9 hSw; (try dsimp only at hSw); go_simp; (try with_reducible rfl))
      try simp only [Act.put, List.setIfInBounds_toArray, List.set_cons_zero, List.set_cons_succ]
      refine wpAnyH_ready (rs := [12]) (by kernel_rfl) (by simp) ?_
      refine (AllReadyH.cons rfl (fun K hK => ?_) AllReadyH.nil)
      · skip
        go_simp
        refine (numS_is (by omega) HY.out u2).mono ?_
        rintro e u3 ⟨rfl, bn⟩
        have D3 := D2.below bn
        have b3 := below_step b2 bn
        have r3 := (bn.block _ l2).trans r2
        have l3 := Nat.lt_of_lt_of_le l2 bn.size
        have c3 := (cells3_s r3).2.2
        dsimp only
        refine hK.out _ _ ⟨D3.c, c3⟩ (fun hHeld => ?_)
        clear hK K bn
        try simp only [Act.put, List.setIfInBounds_toArray, List.set_cons_zero, List.set_cons_succ]
        refine wpAnyH_take (i := 13) (v := ?_) rfl (by kernel_rfl) (by kernel_rfl) (by kernel_rfl) (fun _ _ _ h => h) (Or.inl ⟨by rfl, ?_⟩) hHeld ?_
        rotate_left
        · (intro w9 hSw; (try dsimp only at hSw); go_simp; (try with_reducible rfl))
        try simp only [Act.put, List.setIfInBounds_toArray, List.set_cons_zero, List.set_cons_succ]
        refine wpAnyH_take (i := 14) (v := ?_) rfl (by kernel_rfl) (by kernel_rfl) (by kernel_rfl) (fun _ _ _ h => h) (Or.inl ⟨by rfl, ?_⟩) hHeld ?_
        rotate_left
        · (intro w9 hSw; (try dsimp only at hSw); go_simp; (try with_reducible rfl))
        try simp only [Act.put, List.setIfInBounds_toArray, List.set_cons_zero, List.set_cons_succ]
        refine wpAnyH_done (by kernel_rfl) ?_ _
        go_wp2
        go_ret
        exact ⟨rfl, b3⟩
  · skip
    go_simp
    refine (numS_is (by omega) HX.out wd).mono ?_
    rintro e u4 ⟨rfl, bn⟩
    have D4 := D0.below bn
    have b4 := below_step b0 bn
    dsimp only
    refine hK.out _ _ D4.c (fun hHeld => ?_)
    clear hK K bn
    try simp only [Act.put, List.setIfInBounds_toArray, List.set_cons_zero, List.set_cons_succ]
    refine wpAnyH_ready (rs := [0, 12]) (by kernel_rfl) (by simp) ?_
    refine (AllReadyH.cons rfl (fun K hK => ?_) (AllReadyH.cons rfl (fun K hK => ?_) AllReadyH.nil))
    · skip
      go_simp
      have D5 := D4.below (box_below u4 #[.string { data := #[112, 117, 116, 32] }, .string { data := #[116, 97, 107, 101, 32] }, .string { data := #[109, 111, 118, 101, 32] }] 9)
      have b5 := below_step b4 (box_below u4 #[.string { data := #[112, 117, 116, 32] }, .string { data := #[116, 97, 107, 101, 32] }, .string { data := #[109, 111, 118, 101, 32] }] 9)
      have r5 : (u4.alloc (.cells #[.string { data := #[112, 117, 116, 32] }, .string { data := #[116, 97, 107, 101, 32] }, .string { data := #[109, 111, 118, 101, 32] }] 9)).heap[u4.heap.size]? = some (.cells #[.string { data := #[112, 117, 116, 32] }, .string { data := #[116, 97, 107, 101, 32] }, .string { data := #[109, 111, 118, 101, 32] }] 9 (0, 0)) := heap_alloc_new u4 _
      have l5 : u4.heap.size < (u4.alloc (.cells #[.string { data := #[112, 117, 116, 32] }, .string { data := #[116, 97, 107, 101, 32] }, .string { data := #[109, 111, 118, 101, 32] }] 9)).heap.size := by simp
      refine hK.out _ _ D5.c (fun hHeld => ?_)
      clear hK K
      try simp only [Act.put, List.setIfInBounds_toArray, List.set_cons_zero, List.set_cons_succ]
      generalize u4.alloc (.cells #[.string { data := #[112, 117, 116, 32] }, .string { data := #[116, 97, 107, 101, 32] }, .string { data := #[109, 111, 118, 101, 32] }] 9) = u5 at *
      have c5 := (cells3_s r5).2.2
      refine heldW (S' := (fun w' => (w'.cell? ⟨w.heap.size, 0, none⟩ = some (.int .i64 2) ∧ w'.cell? ⟨w.heap.size, 1, none⟩ = some (.int .i64 x) ∧ w'.cell? ⟨w.heap.size, 2, none⟩ = some (.int .i64 y)) ∧ w'.cell? ⟨u4.heap.size, 2, none⟩ = some (.string { data := #[109, 111, 118, 101, 32] }))) (fun _ h => h.1) _ _ _ _ ?_
      replace hHeld : (fun w' => (w'.cell? ⟨w.heap.size, 0, none⟩ = some (.int .i64 2) ∧ w'.cell? ⟨w.heap.size, 1, none⟩ = some (.int .i64 x) ∧ w'.cell? ⟨w.heap.size, 2, none⟩ = some (.int .i64 y)) ∧ w'.cell? ⟨u4.heap.size, 2, none⟩ = some (.string { data := #[109, 111, 118, 101, 32] })) u5 := ⟨D5.c, c5⟩
      refine wpAnyH_take (i := 3) (v := ?_) rfl (by kernel_rfl) (by kernel_rfl) (by kernel_rfl) (fun _ _ _ h => h) (Or.inl ⟨by rfl, ?_⟩) hHeld ?_
      rotate_left
      · (intro w9 hSw; (try dsimp only at hSw); go_simp; (try with_reducible rfl))
      try simp only [Act.put, List.setIfInBounds_toArray, List.set_cons_zero, List.set_cons_succ]
      refine wpAnyH_take (i := 4) (v := ?_) rfl (by kernel_rfl) (by kernel_rfl) (by kernel_rfl) (fun _ _ _ h => h) (Or.inl ⟨by rfl, ?_⟩) hHeld ?_
      rotate_left
      · (intro w9 hSw; (try dsimp only at hSw); go_simp; (try with_reducible rfl))
      try simp only [Act.put, List.setIfInBounds_toArray, List.set_cons_zero, List.set_cons_succ]
      refine wpAnyH_take (i := 8) (v := ?_) rfl (by kernel_rfl) (by kernel_rfl) (by kernel_rfl) (fun _ _ _ h => h) (Or.inl ⟨by rfl, ?_⟩) hHeld ?_
      rotate_left
      · (intro w9 hSw; (try dsimp only at hSw); go_simp; (try with_reducible rfl))
      try simp only [Act.put, List.setIfInBounds_toArray, List.set_cons_zero, List.set_cons_succ]
      refine wpAnyH_take (i := 9) (v := ?_) rfl (by kernel_rfl) (by kernel_rfl) (by kernel_rfl) (fun _ _ _ h => h) (Or.inl ⟨by rfl, ?_⟩) hHeld ?_
      rotate_left
      · (intro w9 hSw; (try dsimp only at hSw); go_simp; (try with_reducible rfl))
      try simp only [Act.put, List.setIfInBounds_toArray, List.set_cons_zero, List.set_cons_succ]
      refine wpAnyH_ready (rs := [12]) (by kernel_rfl) (by simp) ?_
      refine (AllReadyH.cons rfl (fun K hK => ?_) AllReadyH.nil)
      · skip
        go_simp
        refine (numS_is (by omega) HY.out u5).mono ?_
        rintro e u6 ⟨rfl, bn⟩
        have D6 := D5.below bn
        have b6 := below_step b5 bn
        have r6 := (bn.block _ l5).trans r5
        have l6 := Nat.lt_of_lt_of_le l5 bn.size
        have c6 := (cells3_s r6).2.2
        dsimp only
        refine hK.out _ _ ⟨D6.c, c6⟩ (fun hHeld => ?_)
        clear hK K bn
        try simp only [Act.put, List.setIfInBounds_toArray, List.set_cons_zero, List.set_cons_succ]
        refine wpAnyH_take (i := 13) (v := ?_) rfl (by kernel_rfl) (by kernel_rfl) (by kernel_rfl) (fun _ _ _ h => h) (Or.inl ⟨by rfl, ?_⟩) hHeld ?_
        rotate_left
        · (intro w9 hSw; (try dsimp only at hSw); go_simp; (try with_reducible rfl))
        try simp only [Act.put, List.setIfInBounds_toArray, List.set_cons_zero, List.set_cons_succ]
        refine wpAnyH_take (i := 14) (v := ?_) rfl (by kernel_rfl) (by kernel_rfl) (by kernel_rfl) (fun _ _ _ h => h) (Or.inl ⟨by rfl, ?_⟩) hHeld ?_
        rotate_left
        · (intro w9 hSw; (try dsimp only at hSw); go_simp; (try with_reducible rfl))
        try simp only [Act.put, List.setIfInBounds_toArray, List.set_cons_zero, List.set_cons_succ]
        refine wpAnyH_done (by kernel_rfl) ?_ _
        go_wp2
        go_ret
        exact ⟨rfl, b6⟩
    · skip
      go_simp
      refine (numS_is (by omega) HY.out u4).mono ?_
      rintro e u7 ⟨rfl, bn⟩
      have D7 := D4.below bn
      have b7 := below_step b4 bn
      dsimp only
      refine hK.out _ _ D7.c (fun hHeld => ?_)
      clear hK K bn
      try simp only [Act.put, List.setIfInBounds_toArray, List.set_cons_zero, List.set_cons_succ]
      refine wpAnyH_ready (rs := [0]) (by kernel_rfl) (by simp) ?_
      refine (AllReadyH.cons rfl (fun K hK => ?_) AllReadyH.nil)
      · skip
        go_simp
        have D8 := D7.below (box_below u7 #[.string { data := #[112, 117, 116, 32] }, .string { data := #[116, 97, 107, 101, 32] }, .string { data := #[109, 111, 118, 101, 32] }] 9)
        have b8 := below_step b7 (box_below u7 #[.string { data := #[112, 117, 116, 32] }, .string { data := #[116, 97, 107, 101, 32] }, .string { data := #[109, 111, 118, 101, 32] }] 9)
        have r8 : (u7.alloc (.cells #[.string { data := #[112, 117, 116, 32] }, .string { data := #[116, 97, 107, 101, 32] }, .string { data := #[109, 111, 118, 101, 32] }] 9)).heap[u7.heap.size]? = some (.cells #[.string { data := #[112, 117, 116, 32] }, .string { data := #[116, 97, 107, 101, 32] }, .string { data := #[109, 111, 118, 101, 32] }] 9 (0, 0)) := heap_alloc_new u7 _
        have l8 : u7.heap.size < (u7.alloc (.cells #[.string { data := #[112, 117, 116, 32] }, .string { data := #[116, 97, 107, 101, 32] }, .string { data := #[109, 111, 118, 101, 32] }] 9)).heap.size := by simp
        refine hK.out _ _ D8.c (fun hHeld => ?_)
        clear hK K
        try simp only [Act.put, List.setIfInBounds_toArray, List.set_cons_zero, List.set_cons_succ]
        generalize u7.alloc (.cells #[.string { data := #[112, 117, 116, 32] }, .string { data := #[116, 97, 107, 101, 32] }, .string { data := #[109, 111, 118, 101, 32] }] 9) = u8 at *
        have c8 := (cells3_s r8).2.2
        refine heldW (S' := (fun w' => (w'.cell? ⟨w.heap.size, 0, none⟩ = some (.int .i64 2) ∧ w'.cell? ⟨w.heap.size, 1, none⟩ = some (.int .i64 x) ∧ w'.cell? ⟨w.heap.size, 2, none⟩ = some (.int .i64 y)) ∧ w'.cell? ⟨u7.heap.size, 2, none⟩ = some (.string { data := #[109, 111, 118, 101, 32] }))) (fun _ h => h.1) _ _ _ _ ?_
        replace hHeld : (fun w' => (w'.cell? ⟨w.heap.size, 0, none⟩ = some (.int .i64 2) ∧ w'.cell? ⟨w.heap.size, 1, none⟩ = some (.int .i64 x) ∧ w'.cell? ⟨w.heap.size, 2, none⟩ = some (.int .i64 y)) ∧ w'.cell? ⟨u7.heap.size, 2, none⟩ = some (.string { data := #[109, 111, 118, 101, 32] })) u8 := ⟨D8.c, c8⟩
        refine wpAnyH_take (i := 3) (v := ?_) rfl (by kernel_rfl) (by kernel_rfl) (by kernel_rfl) (fun _ _ _ h => h) (Or.inl ⟨by rfl, ?_⟩) hHeld ?_
        rotate_left
        · (intro w9 hSw; (try dsimp only at hSw); go_simp; (try with_reducible rfl))
        try simp only [Act.put, List.setIfInBounds_toArray, List.set_cons_zero, List.set_cons_succ]
        refine wpAnyH_take (i := 4) (v := ?_) rfl (by kernel_rfl) (by kernel_rfl) (by kernel_rfl) (fun _ _ _ h => h) (Or.inl ⟨by rfl, ?_⟩) hHeld ?_
        rotate_left
        · (intro w9 hSw; (try dsimp only at hSw); go_simp; (try with_reducible rfl))
        try simp only [Act.put, List.setIfInBounds_toArray, List.set_cons_zero, List.set_cons_succ]
        refine wpAnyH_take (i := 8) (v := ?_) rfl (by kernel_rfl) (by kernel_rfl) (by kernel_rfl) (fun _ _ _ h => h) (Or.inl ⟨by rfl, ?_⟩) hHeld ?_
        rotate_left
        · (intro w9 hSw; (try dsimp only at hSw); go_simp; (try with_reducible rfl))
        try simp only [Act.put, List.setIfInBounds_toArray, List.set_cons_zero, List.set_cons_succ]
        refine wpAnyH_take (i := 9) (v := ?_) rfl (by kernel_rfl) (by kernel_rfl) (by kernel_rfl) (fun _ _ _ h => h) (Or.inl ⟨by rfl, ?_⟩) hHeld ?_
        rotate_left
        · (intro w9 hSw; (try dsimp only at hSw); go_simp; (try with_reducible rfl))
        try simp only [Act.put, List.setIfInBounds_toArray, List.set_cons_zero, List.set_cons_succ]
        refine wpAnyH_take (i := 13) (v := ?_) rfl (by kernel_rfl) (by kernel_rfl) (by kernel_rfl) (fun _ _ _ h => h) (Or.inl ⟨by rfl, ?_⟩) hHeld ?_
        rotate_left
        · (intro w9 hSw; (try dsimp only at hSw); go_simp; (try with_reducible rfl))
        try simp only [Act.put, List.setIfInBounds_toArray, List.set_cons_zero, List.set_cons_succ]
        refine wpAnyH_take (i := 14) (v := ?_) rfl (by kernel_rfl) (by kernel_rfl) (by kernel_rfl) (fun _ _ _ h => h) (Or.inl ⟨by rfl, ?_⟩) hHeld ?_
        rotate_left
        · (intro w9 hSw; (try dsimp only at hSw); go_simp; (try with_reducible rfl))
        try simp only [Act.put, List.setIfInBounds_toArray, List.set_cons_zero, List.set_cons_succ]
        refine wpAnyH_done (by kernel_rfl) ?_ _
        go_wp2
        go_ret
        exact ⟨rfl, b8⟩
set_option linter.unusedSimpArgs false in
set_option maxRecDepth 100000 in
set_option maxHeartbeats 3200000 in
theorem specDeed4 (x : Int) (w : World) (hx : -99 ≤ x ∧ x ≤ 99) : Calls Tryd.prog 12 #[.agg #[.int .i64 4, .int .i64 x, .int .i64 0]] w (Gives (strV (([103, 114, 111, 119] : Bs) ++ 32 :: numB x)) w) := by
  obtain ⟨X, hX⟩ : ∃ X, numB x = X := ⟨_, rfl⟩
  have lX : X.length ≤ 3 := by rw [← hX]; exact numB_len99 hx
  rw [hX]
  have HX := Lib.hid hX
  clear hX
  have a1 : ∀ W : World, (Op.stringOp .add { data := #[103, 114, 111, 119, 32] } (bs X)).run Tryd.prog W = .ok (.string (bs (([103, 114, 111, 119] : Bs) ++ 32 :: X))) W := fun W => (str_add (([103, 114, 111, 119] : Bs) ++ [32]) X W (by simp; omega)).trans (by rw [List.append_assoc]; rfl)
  generalize ([103, 114, 111, 119] : Bs) ++ 32 :: X = S1 at a1 ⊢
  obtain ⟨W, hW⟩ : ∃ W, W = w.alloc (.cells #[.int .i64 4, .int .i64 x, .int .i64 0] 24) := ⟨_, rfl⟩
  have bb : Below w.heap.size w W := by rw [hW]; exact box_below _ _ _
  have D : At3D W w.heap.size 4 x 0 := ⟨by rw [hW]; exact heap_alloc_new _ _⟩
  obtain ⟨p0, p1, p2⟩ := D.c
  go_enter Tryd.func12, Tryd.ntmps12
  go_wp2_with (first | (rw [← hW]; clear hW) | fail)
  refine (inS_lit (c := true) (decide_eq_true hx) _).mono ?_
  rintro e wi ⟨rfl, bn⟩
  replace bb := below_step bb bn
  replace D := D.below bn
  clear p0 p1 p2 bn
  obtain ⟨p0, p1, p2⟩ := D.c
  go_wp2_with (first | (rw [← hW]; clear hW) | fail)
  refine (inS_lit (c := true) (by decide) _).mono ?_
  rintro e wi ⟨rfl, bn⟩
  replace bb := below_step bb bn
  replace D := D.below bn
  clear p0 p1 p2 bn
  obtain ⟨p0, p1, p2⟩ := D.c
  go_wp2_with (first | (rw [← hW]; clear hW) | fail)
  refine (inS_lit (c := false) (by decide) _).mono ?_
  rintro e wi ⟨rfl, bn⟩
  replace bb := below_step bb bn
  replace D := D.below bn
  clear p0 p1 p2 bn
  obtain ⟨p0, p1, p2⟩ := D.c
  go_wp2_with (first | (rw [← hW]; clear hW) | fail)
  refine (inS_lit (c := true) (by decide) _).mono ?_
  rintro e wi ⟨rfl, bn⟩
  replace bb := below_step bb bn
  replace D := D.below bn
  clear p0 p1 p2 bn
  obtain ⟨p0, p1, p2⟩ := D.c
  have hw : IntKind.i64.wrap 0 = 0 := by decide
  go_wp2_with fail
  have D0 := D.below (Below.refl wi.heap.size wi).drew
  have b0 : Below w.heap.size w wi.drew := bb.drew
  refine wp_region_held_drew (S := fun w' => w'.cell? ⟨w.heap.size, 0, none⟩ = some (.int .i64 4) ∧ w'.cell? ⟨w.heap.size, 1, none⟩ = some (.int .i64 x) ∧ w'.cell? ⟨w.heap.size, 2, none⟩ = some (.int .i64 0)) (by kernel_rfl) D0.c (fun hHeld => ?_)
  generalize wi.drew = wd at *
  clear p0 p1 p2 D bb
  refine wpAnyH_take (i := 1) (v := ?_) rfl (by kernel_rfl) (by kernel_rfl) (by kernel_rfl) (fun _ _ _ h => h) (Or.inl ⟨by rfl, ?_⟩) hHeld ?_
  rotate_left
  · (intro w9 hSw; (try dsimp only at hSw); go_simp; (try with_reducible rfl))
  try simp only [Act.put, List.setIfInBounds_toArray, List.set_cons_zero, List.set_cons_succ]
  refine wpAnyH_take (i := 2) (v := ?_) rfl (by kernel_rfl) (by kernel_rfl) (by kernel_rfl) (fun _ _ _ h => h) (Or.inl ⟨by rfl, ?_⟩) hHeld ?_
  rotate_left
  · (intro w9 hSw; (try dsimp only at hSw); go_simp; (try with_reducible rfl))
  try simp only [Act.put, List.setIfInBounds_toArray, List.set_cons_zero, List.set_cons_succ]
  refine wpAnyH_take (i := 3) (v := ?_) rfl (by kernel_rfl) (by kernel_rfl) (by kernel_rfl) (fun _ _ _ h => h) (Or.inl ⟨by rfl, ?_⟩) hHeld ?_
  rotate_left
  · (intro w9 hSw; (try dsimp only at hSw); go_simp; (try with_reducible rfl))
  try simp only [Act.put, List.setIfInBounds_toArray, List.set_cons_zero, List.set_cons_succ]
  refine wpAnyH_take (i := 6) (v := ?_) rfl (by kernel_rfl) (by kernel_rfl) (by kernel_rfl) (fun _ _ _ h => h) (Or.inl ⟨by rfl, ?_⟩) hHeld ?_
  rotate_left
  · (intro w9 hSw; (try dsimp only at hSw); go_simp; (try with_reducible rfl))
  try simp only [Act.put, List.setIfInBounds_toArray, List.set_cons_zero, List.set_cons_succ]
  refine wpAnyH_take (i := 7) (v := ?_) rfl (by kernel_rfl) (by kernel_rfl) (by kernel_rfl) (fun _ _ _ h => h) (Or.inl ⟨by rfl, ?_⟩) hHeld ?_
  rotate_left
  · (intro w9 hSw; (try dsimp only at hSw); go_simp; (try with_reducible rfl))
  try simp only [Act.put, List.setIfInBounds_toArray, List.set_cons_zero, List.set_cons_succ]
  refine wpAnyH_ready (rs := [0, 8]) (by kernel_rfl) (by simp) ?_
  refine (AllReadyH.cons rfl (fun K hK => ?_) (AllReadyH.cons rfl (fun K hK => ?_) AllReadyH.nil))
  · skip
    go_simp
    have D1 := D0.below (box_below wd #[.string { data := #[103, 114, 111, 119, 32] }, .string { data := #[115, 104, 114, 105, 110, 107, 32] }, .string { data := #[115, 105, 101, 118, 101, 32] }] 9)
    have b1 := below_step b0 (box_below wd #[.string { data := #[103, 114, 111, 119, 32] }, .string { data := #[115, 104, 114, 105, 110, 107, 32] }, .string { data := #[115, 105, 101, 118, 101, 32] }] 9)
    have r1 : (wd.alloc (.cells #[.string { data := #[103, 114, 111, 119, 32] }, .string { data := #[115, 104, 114, 105, 110, 107, 32] }, .string { data := #[115, 105, 101, 118, 101, 32] }] 9)).heap[wd.heap.size]? = some (.cells #[.string { data := #[103, 114, 111, 119, 32] }, .string { data := #[115, 104, 114, 105, 110, 107, 32] }, .string { data := #[115, 105, 101, 118, 101, 32] }] 9 (0, 0)) := heap_alloc_new wd _
    have l1 : wd.heap.size < (wd.alloc (.cells #[.string { data := #[103, 114, 111, 119, 32] }, .string { data := #[115, 104, 114, 105, 110, 107, 32] }, .string { data := #[115, 105, 101, 118, 101, 32] }] 9)).heap.size := by simp
    refine hK.out _ _ D1.c (fun hHeld => ?_)
    clear hK K
    try simp only [Act.put, List.setIfInBounds_toArray, List.set_cons_zero, List.set_cons_succ]
    generalize wd.alloc (.cells #[.string { data := #[103, 114, 111, 119, 32] }, .string { data := #[115, 104, 114, 105, 110, 107, 32] }, .string { data := #[115, 105, 101, 118, 101, 32] }] 9) = u1 at *
    have c1 := (cells3_s r1).1
    refine heldW (S' := (fun w' => (w'.cell? ⟨w.heap.size, 0, none⟩ = some (.int .i64 4) ∧ w'.cell? ⟨w.heap.size, 1, none⟩ = some (.int .i64 x) ∧ w'.cell? ⟨w.heap.size, 2, none⟩ = some (.int .i64 0)) ∧ w'.cell? ⟨wd.heap.size, 0, none⟩ = some (.string { data := #[103, 114, 111, 119, 32] }))) (fun _ h => h.1) _ _ _ _ ?_
    replace hHeld : (fun w' => (w'.cell? ⟨w.heap.size, 0, none⟩ = some (.int .i64 4) ∧ w'.cell? ⟨w.heap.size, 1, none⟩ = some (.int .i64 x) ∧ w'.cell? ⟨w.heap.size, 2, none⟩ = some (.int .i64 0)) ∧ w'.cell? ⟨wd.heap.size, 0, none⟩ = some (.string { data := #[103, 114, 111, 119, 32] })) u1 := ⟨D1.c, c1⟩
    refine wpAnyH_take (i := 4) (v := ?_) rfl (by kernel_rfl) (by kernel_rfl) (by kernel_rfl) (fun _ _ _ h => h) (Or.inl ⟨by rfl, ?_⟩) hHeld ?_
    rotate_left
    · (intro w9 hSw; (try dsimp only at hSw); go_simp; (try with_reducible rfl))
    try simp only [Act.put, List.setIfInBounds_toArray, List.set_cons_zero, List.set_cons_succ]
    refine wpAnyH_take (i := 5) (v := ?_) rfl (by kernel_rfl) (by kernel_rfl) (by kernel_rfl) (fun _ _ _ h => h) (Or.inl ⟨by rfl, ?_⟩) hHeld ?_
    rotate_left
    · (intro w9 hSw; (try dsimp only at hSw); go_simp; (try with_reducible rfl))
    try simp only [Act.put, List.setIfInBounds_toArray, List.set_cons_zero, List.set_cons_succ]
    refine wpAnyH_ready (rs := [8]) (by kernel_rfl) (by simp) ?_
    refine (AllReadyH.cons rfl (fun K hK => ?_) AllReadyH.nil)
    · skip
      go_simp
      refine (numS_is (by omega) HX.out u1).mono ?_
      rintro e u2 ⟨rfl, bn⟩
      have D2 := D1.below bn
      have b2 := below_step b1 bn
      have r2 := (bn.block _ l1).trans r1
      have l2 := Nat.lt_of_lt_of_le l1 bn.size
      have c2 := (cells3_s r2).1
      dsimp only
      refine hK.out _ _ ⟨D2.c, c2⟩ (fun hHeld => ?_)
      clear hK K bn
      try simp only [Act.put, List.setIfInBounds_toArray, List.set_cons_zero, List.set_cons_succ]
      refine wpAnyH_take (i := 9) (v := ?_) rfl (by kernel_rfl) (by kernel_rfl) (by kernel_rfl) (fun _ _ _ h => h) (Or.inl ⟨by rfl, ?_⟩) hHeld ?_
      rotate_left
      · (intro w9 hSw; (try dsimp only at hSw); go_simp; (try with_reducible rfl))
      try simp only [Act.put, List.setIfInBounds_toArray, List.set_cons_zero, List.set_cons_succ]
      refine wpAnyH_take (i := 10) (v := ?_) rfl (by kernel_rfl) (by kernel_rfl) (by kernel_rfl) (fun _ _ _ h => h) (Or.inl ⟨by rfl, ?_⟩) hHeld ?_
      rotate_left
      · (intro w9 hSw; (try dsimp only at hSw); go_simp; (try with_reducible rfl))
      try simp only [Act.put, List.setIfInBounds_toArray, List.set_cons_zero, List.set_cons_succ]
      refine wpAnyH_done (by kernel_rfl) ?_ _
      go_wp2
      go_ret
      exact ⟨rfl, b2⟩
  · skip
    go_simp
    refine (numS_is (by omega) HX.out wd).mono ?_
    rintro e u3 ⟨rfl, bn⟩
    have D3 := D0.below bn
    have b3 := below_step b0 bn
    dsimp only
    refine hK.out _ _ D3.c (fun hHeld => ?_)
    clear hK K bn
    try simp only [Act.put, List.setIfInBounds_toArray, List.set_cons_zero, List.set_cons_succ]
    refine wpAnyH_ready (rs := [0]) (by kernel_rfl) (by simp) ?_
    refine (AllReadyH.cons rfl (fun K hK => ?_) AllReadyH.nil)
    · skip
      go_simp
      have D4 := D3.below (box_below u3 #[.string { data := #[103, 114, 111, 119, 32] }, .string { data := #[115, 104, 114, 105, 110, 107, 32] }, .string { data := #[115, 105, 101, 118, 101, 32] }] 9)
      have b4 := below_step b3 (box_below u3 #[.string { data := #[103, 114, 111, 119, 32] }, .string { data := #[115, 104, 114, 105, 110, 107, 32] }, .string { data := #[115, 105, 101, 118, 101, 32] }] 9)
      have r4 : (u3.alloc (.cells #[.string { data := #[103, 114, 111, 119, 32] }, .string { data := #[115, 104, 114, 105, 110, 107, 32] }, .string { data := #[115, 105, 101, 118, 101, 32] }] 9)).heap[u3.heap.size]? = some (.cells #[.string { data := #[103, 114, 111, 119, 32] }, .string { data := #[115, 104, 114, 105, 110, 107, 32] }, .string { data := #[115, 105, 101, 118, 101, 32] }] 9 (0, 0)) := heap_alloc_new u3 _
      have l4 : u3.heap.size < (u3.alloc (.cells #[.string { data := #[103, 114, 111, 119, 32] }, .string { data := #[115, 104, 114, 105, 110, 107, 32] }, .string { data := #[115, 105, 101, 118, 101, 32] }] 9)).heap.size := by simp
      refine hK.out _ _ D4.c (fun hHeld => ?_)
      clear hK K
      try simp only [Act.put, List.setIfInBounds_toArray, List.set_cons_zero, List.set_cons_succ]
      generalize u3.alloc (.cells #[.string { data := #[103, 114, 111, 119, 32] }, .string { data := #[115, 104, 114, 105, 110, 107, 32] }, .string { data := #[115, 105, 101, 118, 101, 32] }] 9) = u4 at *
      have c4 := (cells3_s r4).1
      refine heldW (S' := (fun w' => (w'.cell? ⟨w.heap.size, 0, none⟩ = some (.int .i64 4) ∧ w'.cell? ⟨w.heap.size, 1, none⟩ = some (.int .i64 x) ∧ w'.cell? ⟨w.heap.size, 2, none⟩ = some (.int .i64 0)) ∧ w'.cell? ⟨u3.heap.size, 0, none⟩ = some (.string { data := #[103, 114, 111, 119, 32] }))) (fun _ h => h.1) _ _ _ _ ?_
      replace hHeld : (fun w' => (w'.cell? ⟨w.heap.size, 0, none⟩ = some (.int .i64 4) ∧ w'.cell? ⟨w.heap.size, 1, none⟩ = some (.int .i64 x) ∧ w'.cell? ⟨w.heap.size, 2, none⟩ = some (.int .i64 0)) ∧ w'.cell? ⟨u3.heap.size, 0, none⟩ = some (.string { data := #[103, 114, 111, 119, 32] })) u4 := ⟨D4.c, c4⟩
      refine wpAnyH_take (i := 4) (v := ?_) rfl (by kernel_rfl) (by kernel_rfl) (by kernel_rfl) (fun _ _ _ h => h) (Or.inl ⟨by rfl, ?_⟩) hHeld ?_
      rotate_left
      · (intro w9 hSw; (try dsimp only at hSw); go_simp; (try with_reducible rfl))
      try simp only [Act.put, List.setIfInBounds_toArray, List.set_cons_zero, List.set_cons_succ]
      refine wpAnyH_take (i := 5) (v := ?_) rfl (by kernel_rfl) (by kernel_rfl) (by kernel_rfl) (fun _ _ _ h => h) (Or.inl ⟨by rfl, ?_⟩) hHeld ?_
      rotate_left
      · (intro w9 hSw; (try dsimp only at hSw); go_simp; (try with_reducible rfl))
      try simp only [Act.put, List.setIfInBounds_toArray, List.set_cons_zero, List.set_cons_succ]
      refine wpAnyH_take (i := 9) (v := ?_) rfl (by kernel_rfl) (by kernel_rfl) (by kernel_rfl) (fun _ _ _ h => h) (Or.inl ⟨by rfl, ?_⟩) hHeld ?_
      rotate_left
      · (intro w9 hSw; (try dsimp only at hSw); go_simp; (try with_reducible rfl))
      try simp only [Act.put, List.setIfInBounds_toArray, List.set_cons_zero, List.set_cons_succ]
      refine wpAnyH_take (i := 10) (v := ?_) rfl (by kernel_rfl) (by kernel_rfl) (by kernel_rfl) (fun _ _ _ h => h) (Or.inl ⟨by rfl, ?_⟩) hHeld ?_
      rotate_left
      · (intro w9 hSw; (try dsimp only at hSw); go_simp; (try with_reducible rfl))
      try simp only [Act.put, List.setIfInBounds_toArray, List.set_cons_zero, List.set_cons_succ]
      refine wpAnyH_done (by kernel_rfl) ?_ _
      go_wp2
      go_ret
      exact ⟨rfl, b4⟩
set_option linter.unusedSimpArgs false in
set_option maxRecDepth 100000 in
set_option maxHeartbeats 3200000 in
theorem specDeed5 (x : Int) (w : World) (hx : -99 ≤ x ∧ x ≤ 99) : Calls Tryd.prog 12 #[.agg #[.int .i64 5, .int .i64 x, .int .i64 0]] w (Gives (strV (([115, 104, 114, 105, 110, 107] : Bs) ++ 32 :: numB x)) w) := by
  obtain ⟨X, hX⟩ : ∃ X, numB x = X := ⟨_, rfl⟩
  have lX : X.length ≤ 3 := by rw [← hX]; exact numB_len99 hx
  rw [hX]
  have HX := Lib.hid hX
  clear hX
  have a1 : ∀ W : World, (Op.stringOp .add { data := #[115, 104, 114, 105, 110, 107, 32] } (bs X)).run Tryd.prog W = .ok (.string (bs (([115, 104, 114, 105, 110, 107] : Bs) ++ 32 :: X))) W := fun W => (str_add (([115, 104, 114, 105, 110, 107] : Bs) ++ [32]) X W (by simp; omega)).trans (by rw [List.append_assoc]; rfl)
  generalize ([115, 104, 114, 105, 110, 107] : Bs) ++ 32 :: X = S1 at a1 ⊢
  obtain ⟨W, hW⟩ : ∃ W, W = w.alloc (.cells #[.int .i64 5, .int .i64 x, .int .i64 0] 24) := ⟨_, rfl⟩
  have bb : Below w.heap.size w W := by rw [hW]; exact box_below _ _ _
  have D : At3D W w.heap.size 5 x 0 := ⟨by rw [hW]; exact heap_alloc_new _ _⟩
  obtain ⟨p0, p1, p2⟩ := D.c
  go_enter Tryd.func12, Tryd.ntmps12
  go_wp2_with (first | (rw [← hW]; clear hW) | fail)
  refine (inS_lit (c := true) (decide_eq_true hx) _).mono ?_
  rintro e wi ⟨rfl, bn⟩
  replace bb := below_step bb bn
  replace D := D.below bn
  clear p0 p1 p2 bn
  obtain ⟨p0, p1, p2⟩ := D.c
  go_wp2_with (first | (rw [← hW]; clear hW) | fail)
  refine (inS_lit (c := true) (by decide) _).mono ?_
  rintro e wi ⟨rfl, bn⟩
  replace bb := below_step bb bn
  replace D := D.below bn
  clear p0 p1 p2 bn
  obtain ⟨p0, p1, p2⟩ := D.c
  go_wp2_with (first | (rw [← hW]; clear hW) | fail)
  refine (inS_lit (c := false) (by decide) _).mono ?_
  rintro e wi ⟨rfl, bn⟩
  replace bb := below_step bb bn
  replace D := D.below bn
  clear p0 p1 p2 bn
  obtain ⟨p0, p1, p2⟩ := D.c
  go_wp2_with (first | (rw [← hW]; clear hW) | fail)
  refine (inS_lit (c := true) (by decide) _).mono ?_
  rintro e wi ⟨rfl, bn⟩
  replace bb := below_step bb bn
  replace D := D.below bn
  clear p0 p1 p2 bn
  obtain ⟨p0, p1, p2⟩ := D.c
  have hw : IntKind.i64.wrap 1 = 1 := by decide
  go_wp2_with fail
  have D0 := D.below (Below.refl wi.heap.size wi).drew
  have b0 : Below w.heap.size w wi.drew := bb.drew
  refine wp_region_held_drew (S := fun w' => w'.cell? ⟨w.heap.size, 0, none⟩ = some (.int .i64 5) ∧ w'.cell? ⟨w.heap.size, 1, none⟩ = some (.int .i64 x) ∧ w'.cell? ⟨w.heap.size, 2, none⟩ = some (.int .i64 0)) (by kernel_rfl) D0.c (fun hHeld => ?_)
  generalize wi.drew = wd at *
  clear p0 p1 p2 D bb
  refine wpAnyH_take (i := 1) (v := ?_) rfl (by kernel_rfl) (by kernel_rfl) (by kernel_rfl) (fun _ _ _ h => h) (Or.inl ⟨by rfl, ?_⟩) hHeld ?_
  rotate_left
  · (intro w9 hSw; (try dsimp only at hSw); go_simp; (try with_reducible rfl))
  try simp only [Act.put, List.setIfInBounds_toArray, List.set_cons_zero, List.set_cons_succ]
  refine wpAnyH_take (i := 2) (v := ?_) rfl (by kernel_rfl) (by kernel_rfl) (by kernel_rfl) (fun _ _ _ h => h) (Or.inl ⟨by rfl, ?_⟩) hHeld ?_
  rotate_left
  · (intro w9 hSw; (try dsimp only at hSw); go_simp; (try with_reducible rfl))
  try simp only [Act.put, List.setIfInBounds_toArray, List.set_cons_zero, List.set_cons_succ]
  refine wpAnyH_take (i := 3) (v := ?_) rfl (by kernel_rfl) (by kernel_rfl) (by kernel_rfl) (fun _ _ _ h => h) (Or.inl ⟨by rfl, ?_⟩) hHeld ?_
  rotate_left
  · (intro w9 hSw; (try dsimp only at hSw); go_simp; (try with_reducible rfl))
  try simp only [Act.put, List.setIfInBounds_toArray, List.set_cons_zero, List.set_cons_succ]
  refine wpAnyH_take (i := 6) (v := ?_) rfl (by kernel_rfl) (by kernel_rfl) (by kernel_rfl) (fun _ _ _ h => h) (Or.inl ⟨by rfl, ?_⟩) hHeld ?_
  rotate_left
  · (intro w9 hSw; (try dsimp only at hSw); go_simp; (try with_reducible rfl))
  try simp only [Act.put, List.setIfInBounds_toArray, List.set_cons_zero, List.set_cons_succ]
  refine wpAnyH_take (i := 7) (v := ?_) rfl (by kernel_rfl) (by kernel_rfl) (by kernel_rfl) (fun _ _ _ h => h) (Or.inl ⟨by rfl, ?_⟩) hHeld ?_
  rotate_left
  · (intro w9 hSw; (try dsimp only at hSw); go_simp; (try with_reducible rfl))
  try simp only [Act.put, List.setIfInBounds_toArray, List.set_cons_zero, List.set_cons_succ]
  refine wpAnyH_ready (rs := [0, 8]) (by kernel_rfl) (by simp) ?_
  refine (AllReadyH.cons rfl (fun K hK => ?_) (AllReadyH.cons rfl (fun K hK => ?_) AllReadyH.nil))
  · skip
    go_simp
    have D1 := D0.below (box_below wd #[.string { data := #[103, 114, 111, 119, 32] }, .string { data := #[115, 104, 114, 105, 110, 107, 32] }, .string { data := #[115, 105, 101, 118, 101, 32] }] 9)
    have b1 := below_step b0 (box_below wd #[.string { data := #[103, 114, 111, 119, 32] }, .string { data := #[115, 104, 114, 105, 110, 107, 32] }, .string { data := #[115, 105, 101, 118, 101, 32] }] 9)
    have r1 : (wd.alloc (.cells #[.string { data := #[103, 114, 111, 119, 32] }, .string { data := #[115, 104, 114, 105, 110, 107, 32] }, .string { data := #[115, 105, 101, 118, 101, 32] }] 9)).heap[wd.heap.size]? = some (.cells #[.string { data := #[103, 114, 111, 119, 32] }, .string { data := #[115, 104, 114, 105, 110, 107, 32] }, .string { data := #[115, 105, 101, 118, 101, 32] }] 9 (0, 0)) := heap_alloc_new wd _
    have l1 : wd.heap.size < (wd.alloc (.cells #[.string { data := #[103, 114, 111, 119, 32] }, .string { data := #[115, 104, 114, 105, 110, 107, 32] }, .string { data := #[115, 105, 101, 118, 101, 32] }] 9)).heap.size := by simp
    refine hK.out _ _ D1.c (fun hHeld => ?_)
    clear hK K
    try simp only [Act.put, List.setIfInBounds_toArray, List.set_cons_zero, List.set_cons_succ]
    generalize wd.alloc (.cells #[.string { data := #[103, 114, 111, 119, 32] }, .string { data := #[115, 104, 114, 105, 110, 107, 32] }, .string { data := #[115, 105, 101, 118, 101, 32] }] 9) = u1 at *
    have c1 := (cells3_s r1).2.1
    refine heldW (S' := (fun w' => (w'.cell? ⟨w.heap.size, 0, none⟩ = some (.int .i64 5) ∧ w'.cell? ⟨w.heap.size, 1, none⟩ = some (.int .i64 x) ∧ w'.cell? ⟨w.heap.size, 2, none⟩ = some (.int .i64 0)) ∧ w'.cell? ⟨wd.heap.size, 1, none⟩ = some (.string { data := #[115, 104, 114, 105, 110, 107, 32] }))) (fun _ h => h.1) _ _ _ _ ?_
    replace hHeld : (fun w' => (w'.cell? ⟨w.heap.size, 0, none⟩ = some (.int .i64 5) ∧ w'.cell? ⟨w.heap.size, 1, none⟩ = some (.int .i64 x) ∧ w'.cell? ⟨w.heap.size, 2, none⟩ = some (.int .i64 0)) ∧ w'.cell? ⟨wd.heap.size, 1, none⟩ = some (.string { data := #[115, 104, 114, 105, 110, 107, 32] })) u1 := ⟨D1.c, c1⟩
    refine wpAnyH_take (i := 4) (v := ?_) rfl (by kernel_rfl) (by kernel_rfl) (by kernel_rfl) (fun _ _ _ h => h) (Or.inl ⟨by rfl, ?_⟩) hHeld ?_
    rotate_left
    · (intro w9 hSw; (try dsimp only at hSw); go_simp; (try with_reducible rfl))
    try simp only [Act.put, List.setIfInBounds_toArray, List.set_cons_zero, List.set_cons_succ]
    refine wpAnyH_take (i := 5) (v := ?_) rfl (by kernel_rfl) (by kernel_rfl) (by kernel_rfl) (fun _ _ _ h => h) (Or.inl ⟨by rfl, ?_⟩) hHeld ?_
    rotate_left
    · (intro w9 hSw; (try dsimp only at hSw); go_simp; (try with_reducible rfl))
    try simp only [Act.put, List.setIfInBounds_toArray, List.set_cons_zero, List.set_cons_succ]
    refine wpAnyH_ready (rs := [8]) (by kernel_rfl) (by simp) ?_
    refine (AllReadyH.cons rfl (fun K hK => ?_) AllReadyH.nil)
    · skip
      go_simp
      refine (numS_is (by omega) HX.out u1).mono ?_
      rintro e u2 ⟨rfl, bn⟩
      have D2 := D1.below bn
      have b2 := below_step b1 bn
      have r2 := (bn.block _ l1).trans r1
      have l2 := Nat.lt_of_lt_of_le l1 bn.size
      have c2 := (cells3_s r2).2.1
      dsimp only
      refine hK.out _ _ ⟨D2.c, c2⟩ (fun hHeld => ?_)
      clear hK K bn
      try simp only [Act.put, List.setIfInBounds_toArray, List.set_cons_zero, List.set_cons_succ]
      refine wpAnyH_take (i := 9) (v := ?_) rfl (by kernel_rfl) (by kernel_rfl) (by kernel_rfl) (fun _ _ _ h => h) (Or.inl ⟨by rfl, ?_⟩) hHeld ?_
      rotate_left
      · (intro w9 hSw; (try dsimp only at hSw); go_simp; (try with_reducible rfl))
      try simp only [Act.put, List.setIfInBounds_toArray, List.set_cons_zero, List.set_cons_succ]
      refine wpAnyH_take (i := 10) (v := ?_) rfl (by kernel_rfl) (by kernel_rfl) (by kernel_rfl) (fun _ _ _ h => h) (Or.inl ⟨by rfl, ?_⟩) hHeld ?_
      rotate_left
      · (intro w9 hSw; (try dsimp only at hSw); go_simp; (try with_reducible rfl))
      try simp only [Act.put, List.setIfInBounds_toArray, List.set_cons_zero, List.set_cons_succ]
      refine wpAnyH_done (by kernel_rfl) ?_ _
      go_wp2
      go_ret
      exact ⟨rfl, b2⟩
  · skip
    go_simp
    refine (numS_is (by omega) HX.out wd).mono ?_
    rintro e u3 ⟨rfl, bn⟩
    have D3 := D0.below bn
    have b3 := below_step b0 bn
    dsimp only
    refine hK.out _ _ D3.c (fun hHeld => ?_)
    clear hK K bn
    try simp only [Act.put, List.setIfInBounds_toArray, List.set_cons_zero, List.set_cons_succ]
    refine wpAnyH_ready (rs := [0]) (by kernel_rfl) (by simp) ?_
    refine (AllReadyH.cons rfl (fun K hK => ?_) AllReadyH.nil)
    · skip
      go_simp
      have D4 := D3.below (box_below u3 #[.string { data := #[103, 114, 111, 119, 32] }, .string { data := #[115, 104, 114, 105, 110, 107, 32] }, .string { data := #[115, 105, 101, 118, 101, 32] }] 9)
      have b4 := below_step b3 (box_below u3 #[.string { data := #[103, 114, 111, 119, 32] }, .string { data := #[115, 104, 114, 105, 110, 107, 32] }, .string { data := #[115, 105, 101, 118, 101, 32] }] 9)
      have r4 : (u3.alloc (.cells #[.string { data := #[103, 114, 111, 119, 32] }, .string { data := #[115, 104, 114, 105, 110, 107, 32] }, .string { data := #[115, 105, 101, 118, 101, 32] }] 9)).heap[u3.heap.size]? = some (.cells #[.string { data := #[103, 114, 111, 119, 32] }, .string { data := #[115, 104, 114, 105, 110, 107, 32] }, .string { data := #[115, 105, 101, 118, 101, 32] }] 9 (0, 0)) := heap_alloc_new u3 _
      have l4 : u3.heap.size < (u3.alloc (.cells #[.string { data := #[103, 114, 111, 119, 32] }, .string { data := #[115, 104, 114, 105, 110, 107, 32] }, .string { data := #[115, 105, 101, 118, 101, 32] }] 9)).heap.size := by simp
      refine hK.out _ _ D4.c (fun hHeld => ?_)
      clear hK K
      try simp only [Act.put, List.setIfInBounds_toArray, List.set_cons_zero, List.set_cons_succ]
      generalize u3.alloc (.cells #[.string { data := #[103, 114, 111, 119, 32] }, .string { data := #[115, 104, 114, 105, 110, 107, 32] }, .string { data := #[115, 105, 101, 118, 101, 32] }] 9) = u4 at *
      have c4 := (cells3_s r4).2.1
      refine heldW (S' := (fun w' => (w'.cell? ⟨w.heap.size, 0, none⟩ = some (.int .i64 5) ∧ w'.cell? ⟨w.heap.size, 1, none⟩ = some (.int .i64 x) ∧ w'.cell? ⟨w.heap.size, 2, none⟩ = some (.int .i64 0)) ∧ w'.cell? ⟨u3.heap.size, 1, none⟩ = some (.string { data := #[115, 104, 114, 105, 110, 107, 32] }))) (fun _ h => h.1) _ _ _ _ ?_
      replace hHeld : (fun w' => (w'.cell? ⟨w.heap.size, 0, none⟩ = some (.int .i64 5) ∧ w'.cell? ⟨w.heap.size, 1, none⟩ = some (.int .i64 x) ∧ w'.cell? ⟨w.heap.size, 2, none⟩ = some (.int .i64 0)) ∧ w'.cell? ⟨u3.heap.size, 1, none⟩ = some (.string { data := #[115, 104, 114, 105, 110, 107, 32] })) u4 := ⟨D4.c, c4⟩
      refine wpAnyH_take (i := 4) (v := ?_) rfl (by kernel_rfl) (by kernel_rfl) (by kernel_rfl) (fun _ _ _ h => h) (Or.inl ⟨by rfl, ?_⟩) hHeld ?_
      rotate_left
      · (intro w9 hSw; (try dsimp only at hSw); go_simp; (try with_reducible rfl))
      try simp only [Act.put, List.setIfInBounds_toArray, List.set_cons_zero, List.set_cons_succ]
      refine wpAnyH_take (i := 5) (v := ?_) rfl (by kernel_rfl) (by kernel_rfl) (by kernel_rfl) (fun _ _ _ h => h) (Or.inl ⟨by rfl, ?_⟩) hHeld ?_
      rotate_left
      · (intro w9 hSw; (try dsimp only at hSw); go_simp; (try with_reducible rfl))
      try simp only [Act.put, List.setIfInBounds_toArray, List.set_cons_zero, List.set_cons_succ]
      refine wpAnyH_take (i := 9) (v := ?_) rfl (by kernel_rfl) (by kernel_rfl) (by kernel_rfl) (fun _ _ _ h => h) (Or.inl ⟨by rfl, ?_⟩) hHeld ?_
      rotate_left
      · (intro w9 hSw; (try dsimp only at hSw); go_simp; (try with_reducible rfl))
      try simp only [Act.put, List.setIfInBounds_toArray, List.set_cons_zero, List.set_cons_succ]
      refine wpAnyH_take (i := 10) (v := ?_) rfl (by kernel_rfl) (by kernel_rfl) (by kernel_rfl) (fun _ _ _ h => h) (Or.inl ⟨by rfl, ?_⟩) hHeld ?_
      rotate_left
      · (intro w9 hSw; (try dsimp only at hSw); go_simp; (try with_reducible rfl))
      try simp only [Act.put, List.setIfInBounds_toArray, List.set_cons_zero, List.set_cons_succ]
      refine wpAnyH_done (by kernel_rfl) ?_ _
      go_wp2
      go_ret
      exact ⟨rfl, b4⟩
set_option linter.unusedSimpArgs false in
set_option maxRecDepth 100000 in
set_option maxHeartbeats 3200000 in
theorem specDeed6 (x : Int) (w : World) (hx : -99 ≤ x ∧ x ≤ 99) : Calls Tryd.prog 12 #[.agg #[.int .i64 6, .int .i64 x, .int .i64 0]] w (Gives (strV (([115, 105, 101, 118, 101] : Bs) ++ 32 :: numB x)) w) := by
  obtain ⟨X, hX⟩ : ∃ X, numB x = X := ⟨_, rfl⟩
  have lX : X.length ≤ 3 := by rw [← hX]; exact numB_len99 hx
  rw [hX]
  have HX := Lib.hid hX
  clear hX
  have a1 : ∀ W : World, (Op.stringOp .add { data := #[115, 105, 101, 118, 101, 32] } (bs X)).run Tryd.prog W = .ok (.string (bs (([115, 105, 101, 118, 101] : Bs) ++ 32 :: X))) W := fun W => (str_add (([115, 105, 101, 118, 101] : Bs) ++ [32]) X W (by simp; omega)).trans (by rw [List.append_assoc]; rfl)
  generalize ([115, 105, 101, 118, 101] : Bs) ++ 32 :: X = S1 at a1 ⊢
  obtain ⟨W, hW⟩ : ∃ W, W = w.alloc (.cells #[.int .i64 6, .int .i64 x, .int .i64 0] 24) := ⟨_, rfl⟩
  have bb : Below w.heap.size w W := by rw [hW]; exact box_below _ _ _
  have D : At3D W w.heap.size 6 x 0 := ⟨by rw [hW]; exact heap_alloc_new _ _⟩
  obtain ⟨p0, p1, p2⟩ := D.c
  go_enter Tryd.func12, Tryd.ntmps12
  go_wp2_with (first | (rw [← hW]; clear hW) | fail)
  refine (inS_lit (c := true) (decide_eq_true hx) _).mono ?_
  rintro e wi ⟨rfl, bn⟩
  replace bb := below_step bb bn
  replace D := D.below bn
  clear p0 p1 p2 bn
  obtain ⟨p0, p1, p2⟩ := D.c
  go_wp2_with (first | (rw [← hW]; clear hW) | fail)
  refine (inS_lit (c := true) (by decide) _).mono ?_
  rintro e wi ⟨rfl, bn⟩
  replace bb := below_step bb bn
  replace D := D.below bn
  clear p0 p1 p2 bn
  obtain ⟨p0, p1, p2⟩ := D.c
  go_wp2_with (first | (rw [← hW]; clear hW) | fail)
  refine (inS_lit (c := false) (by decide) _).mono ?_
  rintro e wi ⟨rfl, bn⟩
  replace bb := below_step bb bn
  replace D := D.below bn
  clear p0 p1 p2 bn
  obtain ⟨p0, p1, p2⟩ := D.c
  go_wp2_with (first | (rw [← hW]; clear hW) | fail)
  refine (inS_lit (c := true) (by decide) _).mono ?_
  rintro e wi ⟨rfl, bn⟩
  replace bb := below_step bb bn
  replace D := D.below bn
  clear p0 p1 p2 bn
  obtain ⟨p0, p1, p2⟩ := D.c
  have hw : IntKind.i64.wrap 2 = 2 := by decide
  go_wp2_with fail
  have D0 := D.below (Below.refl wi.heap.size wi).drew
  have b0 : Below w.heap.size w wi.drew := bb.drew
  refine wp_region_held_drew (S := fun w' => w'.cell? ⟨w.heap.size, 0, none⟩ = some (.int .i64 6) ∧ w'.cell? ⟨w.heap.size, 1, none⟩ = some (.int .i64 x) ∧ w'.cell? ⟨w.heap.size, 2, none⟩ = some (.int .i64 0)) (by kernel_rfl) D0.c (fun hHeld => ?_)
  generalize wi.drew = wd at *
  clear p0 p1 p2 D bb
  refine wpAnyH_take (i := 1) (v := ?_) rfl (by kernel_rfl) (by kernel_rfl) (by kernel_rfl) (fun _ _ _ h => h) (Or.inl ⟨by rfl, ?_⟩) hHeld ?_
  rotate_left
  · (intro w9 hSw; (try dsimp only at hSw); go_simp; (try with_reducible rfl))
  try simp only [Act.put, List.setIfInBounds_toArray, List.set_cons_zero, List.set_cons_succ]
  refine wpAnyH_take (i := 2) (v := ?_) rfl (by kernel_rfl) (by kernel_rfl) (by kernel_rfl) (fun _ _ _ h => h) (Or.inl ⟨by rfl, ?_⟩) hHeld ?_
  rotate_left
  · (intro w9 hSw; (try dsimp only at hSw); go_simp; (try with_reducible rfl))
  try simp only [Act.put, List.setIfInBounds_toArray, List.set_cons_zero, List.set_cons_succ]
  refine wpAnyH_take (i := 3) (v := ?_) rfl (by kernel_rfl) (by kernel_rfl) (by kernel_rfl) (fun _ _ _ h => h) (Or.inl ⟨by rfl, ?_⟩) hHeld ?_
  rotate_left
  · (intro w9 hSw; (try dsimp only at hSw); go_simp; (try with_reducible rfl))
  try simp only [Act.put, List.setIfInBounds_toArray, List.set_cons_zero, List.set_cons_succ]
  refine wpAnyH_take (i := 6) (v := ?_) rfl (by kernel_rfl) (by kernel_rfl) (by kernel_rfl) (fun _ _ _ h => h) (Or.inl ⟨by rfl, ?_⟩) hHeld ?_
  rotate_left
  · (intro w9 hSw; (try dsimp only at hSw); go_simp; (try with_reducible rfl))
  try simp only [Act.put, List.setIfInBounds_toArray, List.set_cons_zero, List.set_cons_succ]
  refine wpAnyH_take (i := 7) (v := ?_) rfl (by kernel_rfl) (by kernel_rfl) (by kernel_rfl) (fun _ _ _ h => h) (Or.inl ⟨by rfl, ?_⟩) hHeld ?_
  rotate_left
  · (intro w9 hSw; (try dsimp only at hSw); go_simp; (try with_reducible rfl))
  try simp only [Act.put, List.setIfInBounds_toArray, List.set_cons_zero, List.set_cons_succ]
  refine wpAnyH_ready (rs := [0, 8]) (by kernel_rfl) (by simp) ?_
  refine (AllReadyH.cons rfl (fun K hK => ?_) (AllReadyH.cons rfl (fun K hK => ?_) AllReadyH.nil))
  · skip
    go_simp
    have D1 := D0.below (box_below wd #[.string { data := #[103, 114, 111, 119, 32] }, .string { data := #[115, 104, 114, 105, 110, 107, 32] }, .string { data := #[115, 105, 101, 118, 101, 32] }] 9)
    have b1 := below_step b0 (box_below wd #[.string { data := #[103, 114, 111, 119, 32] }, .string { data := #[115, 104, 114, 105, 110, 107, 32] }, .string { data := #[115, 105, 101, 118, 101, 32] }] 9)
    have r1 : (wd.alloc (.cells #[.string { data := #[103, 114, 111, 119, 32] }, .string { data := #[115, 104, 114, 105, 110, 107, 32] }, .string { data := #[115, 105, 101, 118, 101, 32] }] 9)).heap[wd.heap.size]? = some (.cells #[.string { data := #[103, 114, 111, 119, 32] }, .string { data := #[115, 104, 114, 105, 110, 107, 32] }, .string { data := #[115, 105, 101, 118, 101, 32] }] 9 (0, 0)) := heap_alloc_new wd _
    have l1 : wd.heap.size < (wd.alloc (.cells #[.string { data := #[103, 114, 111, 119, 32] }, .string { data := #[115, 104, 114, 105, 110, 107, 32] }, .string { data := #[115, 105, 101, 118, 101, 32] }] 9)).heap.size := by simp
    refine hK.out _ _ D1.c (fun hHeld => ?_)
    clear hK K
    try simp only [Act.put, List.setIfInBounds_toArray, List.set_cons_zero, List.set_cons_succ]
    generalize wd.alloc (.cells #[.string { data := #[103, 114, 111, 119, 32] }, .string { data := #[115, 104, 114, 105, 110, 107, 32] }, .string { data := #[115, 105, 101, 118, 101, 32] }] 9) = u1 at *
    have c1 := (cells3_s r1).2.2
    refine heldW (S' := (fun w' => (w'.cell? ⟨w.heap.size, 0, none⟩ = some (.int .i64 6) ∧ w'.cell? ⟨w.heap.size, 1, none⟩ = some (.int .i64 x) ∧ w'.cell? ⟨w.heap.size, 2, none⟩ = some (.int .i64 0)) ∧ w'.cell? ⟨wd.heap.size, 2, none⟩ = some (.string { data := #[115, 105, 101, 118, 101, 32] }))) (fun _ h => h.1) _ _ _ _ ?_
    replace hHeld : (fun w' => (w'.cell? ⟨w.heap.size, 0, none⟩ = some (.int .i64 6) ∧ w'.cell? ⟨w.heap.size, 1, none⟩ = some (.int .i64 x) ∧ w'.cell? ⟨w.heap.size, 2, none⟩ = some (.int .i64 0)) ∧ w'.cell? ⟨wd.heap.size, 2, none⟩ = some (.string { data := #[115, 105, 101, 118, 101, 32] })) u1 := ⟨D1.c, c1⟩
    refine wpAnyH_take (i := 4) (v := ?_) rfl (by kernel_rfl) (by kernel_rfl) (by kernel_rfl) (fun _ _ _ h => h) (Or.inl ⟨by rfl, ?_⟩) hHeld ?_
    rotate_left
    · (intro w9 hSw; (try dsimp only at hSw); go_simp; (try with_reducible rfl))
    try simp only [Act.put, List.setIfInBounds_toArray, List.set_cons_zero, List.set_cons_succ]
    refine wpAnyH_take (i := 5) (v := ?_) rfl (by kernel_rfl) (by kernel_rfl) (by kernel_rfl) (fun _ _ _ h => h) (Or.inl ⟨by rfl, ?_⟩) hHeld ?_
    rotate_left
    · (intro w9 hSw; (try dsimp only at hSw); go_simp; (try with_reducible rfl))
    try simp only [Act.put, List.setIfInBounds_toArray, List.set_cons_zero, List.set_cons_succ]
    refine wpAnyH_ready (rs := [8]) (by kernel_rfl) (by simp) ?_
    refine (AllReadyH.cons rfl (fun K hK => ?_) AllReadyH.nil)
    · skip
      go_simp
      refine (numS_is (by omega) HX.out u1).mono ?_
      rintro e u2 ⟨rfl, bn⟩
      have D2 := D1.below bn
      have b2 := below_step b1 bn
      have r2 := (bn.block _ l1).trans r1
      have l2 := Nat.lt_of_lt_of_le l1 bn.size
      have c2 := (cells3_s r2).2.2
      dsimp only
      refine hK.out _ _ ⟨D2.c, c2⟩ (fun hHeld => ?_)
      clear hK K bn
      try simp only [Act.put, List.setIfInBounds_toArray, List.set_cons_zero, List.set_cons_succ]
      refine wpAnyH_take (i := 9) (v := ?_) rfl (by kernel_rfl) (by kernel_rfl) (by kernel_rfl) (fun _ _ _ h => h) (Or.inl ⟨by rfl, ?_⟩) hHeld ?_
      rotate_left
      · (intro w9 hSw; (try dsimp only at hSw); go_simp; (try with_reducible rfl))
      try simp only [Act.put, List.setIfInBounds_toArray, List.set_cons_zero, List.set_cons_succ]
      refine wpAnyH_take (i := 10) (v := ?_) rfl (by kernel_rfl) (by kernel_rfl) (by kernel_rfl) (fun _ _ _ h => h) (Or.inl ⟨by rfl, ?_⟩) hHeld ?_
      rotate_left
      · (intro w9 hSw; (try dsimp only at hSw); go_simp; (try with_reducible rfl))
      try simp only [Act.put, List.setIfInBounds_toArray, List.set_cons_zero, List.set_cons_succ]
      refine wpAnyH_done (by kernel_rfl) ?_ _
      go_wp2
      go_ret
      exact ⟨rfl, b2⟩
  · skip
    go_simp
    refine (numS_is (by omega) HX.out wd).mono ?_
    rintro e u3 ⟨rfl, bn⟩
    have D3 := D0.below bn
    have b3 := below_step b0 bn
    dsimp only
    refine hK.out _ _ D3.c (fun hHeld => ?_)
    clear hK K bn
    try simp only [Act.put, List.setIfInBounds_toArray, List.set_cons_zero, List.set_cons_succ]
    refine wpAnyH_ready (rs := [0]) (by kernel_rfl) (by simp) ?_
    refine (AllReadyH.cons rfl (fun K hK => ?_) AllReadyH.nil)
    · skip
      go_simp
      have D4 := D3.below (box_below u3 #[.string { data := #[103, 114, 111, 119, 32] }, .string { data := #[115, 104, 114, 105, 110, 107, 32] }, .string { data := #[115, 105, 101, 118, 101, 32] }] 9)
      have b4 := below_step b3 (box_below u3 #[.string { data := #[103, 114, 111, 119, 32] }, .string { data := #[115, 104, 114, 105, 110, 107, 32] }, .string { data := #[115, 105, 101, 118, 101, 32] }] 9)
      have r4 : (u3.alloc (.cells #[.string { data := #[103, 114, 111, 119, 32] }, .string { data := #[115, 104, 114, 105, 110, 107, 32] }, .string { data := #[115, 105, 101, 118, 101, 32] }] 9)).heap[u3.heap.size]? = some (.cells #[.string { data := #[103, 114, 111, 119, 32] }, .string { data := #[115, 104, 114, 105, 110, 107, 32] }, .string { data := #[115, 105, 101, 118, 101, 32] }] 9 (0, 0)) := heap_alloc_new u3 _
      have l4 : u3.heap.size < (u3.alloc (.cells #[.string { data := #[103, 114, 111, 119, 32] }, .string { data := #[115, 104, 114, 105, 110, 107, 32] }, .string { data := #[115, 105, 101, 118, 101, 32] }] 9)).heap.size := by simp
      refine hK.out _ _ D4.c (fun hHeld => ?_)
      clear hK K
      try simp only [Act.put, List.setIfInBounds_toArray, List.set_cons_zero, List.set_cons_succ]
      generalize u3.alloc (.cells #[.string { data := #[103, 114, 111, 119, 32] }, .string { data := #[115, 104, 114, 105, 110, 107, 32] }, .string { data := #[115, 105, 101, 118, 101, 32] }] 9) = u4 at *
      have c4 := (cells3_s r4).2.2
      refine heldW (S' := (fun w' => (w'.cell? ⟨w.heap.size, 0, none⟩ = some (.int .i64 6) ∧ w'.cell? ⟨w.heap.size, 1, none⟩ = some (.int .i64 x) ∧ w'.cell? ⟨w.heap.size, 2, none⟩ = some (.int .i64 0)) ∧ w'.cell? ⟨u3.heap.size, 2, none⟩ = some (.string { data := #[115, 105, 101, 118, 101, 32] }))) (fun _ h => h.1) _ _ _ _ ?_
      replace hHeld : (fun w' => (w'.cell? ⟨w.heap.size, 0, none⟩ = some (.int .i64 6) ∧ w'.cell? ⟨w.heap.size, 1, none⟩ = some (.int .i64 x) ∧ w'.cell? ⟨w.heap.size, 2, none⟩ = some (.int .i64 0)) ∧ w'.cell? ⟨u3.heap.size, 2, none⟩ = some (.string { data := #[115, 105, 101, 118, 101, 32] })) u4 := ⟨D4.c, c4⟩
      refine wpAnyH_take (i := 4) (v := ?_) rfl (by kernel_rfl) (by kernel_rfl) (by kernel_rfl) (fun _ _ _ h => h) (Or.inl ⟨by rfl, ?_⟩) hHeld ?_
      rotate_left
      · (intro w9 hSw; (try dsimp only at hSw); go_simp; (try with_reducible rfl))
      try simp only [Act.put, List.setIfInBounds_toArray, List.set_cons_zero, List.set_cons_succ]
      refine wpAnyH_take (i := 5) (v := ?_) rfl (by kernel_rfl) (by kernel_rfl) (by kernel_rfl) (fun _ _ _ h => h) (Or.inl ⟨by rfl, ?_⟩) hHeld ?_
      rotate_left
      · (intro w9 hSw; (try dsimp only at hSw); go_simp; (try with_reducible rfl))
      try simp only [Act.put, List.setIfInBounds_toArray, List.set_cons_zero, List.set_cons_succ]
      refine wpAnyH_take (i := 9) (v := ?_) rfl (by kernel_rfl) (by kernel_rfl) (by kernel_rfl) (fun _ _ _ h => h) (Or.inl ⟨by rfl, ?_⟩) hHeld ?_
      rotate_left
      · (intro w9 hSw; (try dsimp only at hSw); go_simp; (try with_reducible rfl))
      try simp only [Act.put, List.setIfInBounds_toArray, List.set_cons_zero, List.set_cons_succ]
      refine wpAnyH_take (i := 10) (v := ?_) rfl (by kernel_rfl) (by kernel_rfl) (by kernel_rfl) (fun _ _ _ h => h) (Or.inl ⟨by rfl, ?_⟩) hHeld ?_
      rotate_left
      · (intro w9 hSw; (try dsimp only at hSw); go_simp; (try with_reducible rfl))
      try simp only [Act.put, List.setIfInBounds_toArray, List.set_cons_zero, List.set_cons_succ]
      refine wpAnyH_done (by kernel_rfl) ?_ _
      go_wp2
      go_ret
      exact ⟨rfl, b4⟩
set_option maxRecDepth 100000 in
set_option maxHeartbeats 3200000 in
theorem specDeedOut (k x y : Int) (w : World) (h : ¬ ((-99 ≤ x ∧ x ≤ 99) ∧ -99 ≤ y ∧ y ≤ 99)) : Calls Tryd.prog 12 #[.agg #[.int .i64 k, .int .i64 x, .int .i64 y]] w (Gives (strV []) w) := by
  by_cases hx : -99 ≤ x ∧ x ≤ 99
  · have hy : ¬ (-99 ≤ y ∧ y ≤ 99) := fun hy => h ⟨hx, hy⟩
    have y0 : (y == 0) = false := beq_eq_false_iff_ne.2 (by omega)
    obtain ⟨W, hW⟩ : ∃ W, W = w.alloc (.cells #[.int .i64 k, .int .i64 x, .int .i64 y] 24) := ⟨_, rfl⟩
    have bb : Below w.heap.size w W := by rw [hW]; exact box_below _ _ _
    have D : At3D W w.heap.size k x y := ⟨by rw [hW]; exact heap_alloc_new _ _⟩
    obtain ⟨p0, p1, p2⟩ := D.c
    go_enter Tryd.func12, Tryd.ntmps12
    go_wp2_with (first | (rw [← hW]; clear hW) | fail)
    refine (inS_lit (c := true) (decide_eq_true hx) _).mono ?_
    rintro e wi ⟨rfl, bn⟩
    replace bb := below_step bb bn
    replace D := D.below bn
    clear p0 p1 p2 bn
    obtain ⟨p0, p1, p2⟩ := D.c
    go_wp2_with (first | (rw [← hW]; clear hW) | fail)
    refine (inS_lit (c := false) (decide_eq_false hy) _).mono ?_
    rintro e wi ⟨rfl, bn⟩
    replace bb := below_step bb bn
    replace D := D.below bn
    clear p0 p1 p2 bn
    obtain ⟨p0, p1, p2⟩ := D.c
    go_wp2
    go_ret
    exact ⟨rfl, bb⟩
  · have x0 : (x == 0) = false := beq_eq_false_iff_ne.2 (by omega)
    obtain ⟨W, hW⟩ : ∃ W, W = w.alloc (.cells #[.int .i64 k, .int .i64 x, .int .i64 y] 24) := ⟨_, rfl⟩
    have bb : Below w.heap.size w W := by rw [hW]; exact box_below _ _ _
    have D : At3D W w.heap.size k x y := ⟨by rw [hW]; exact heap_alloc_new _ _⟩
    obtain ⟨p0, p1, p2⟩ := D.c
    go_enter Tryd.func12, Tryd.ntmps12
    go_wp2_with (first | (rw [← hW]; clear hW) | fail)
    refine (inS_lit (c := false) (decide_eq_false hx) _).mono ?_
    rintro e wi ⟨rfl, bn⟩
    replace bb := below_step bb bn
    replace D := D.below bn
    clear p0 p1 p2 bn
    obtain ⟨p0, p1, p2⟩ := D.c
    go_wp2
    go_ret
    exact ⟨rfl, bb⟩
set_option maxRecDepth 100000 in
set_option maxHeartbeats 3200000 in
theorem specDeedOne (k x y : Int) (w : World) (hx : -99 ≤ x ∧ x ≤ 99) (hy : -99 ≤ y ∧ y ≤ 99) (hk : 4 ≤ k ∧ k ≤ 6) (h0 : y ≠ 0) : Calls Tryd.prog 12 #[.agg #[.int .i64 k, .int .i64 x, .int .i64 y]] w (Gives (strV []) w) := by
  have y0 : (y == 0) = false := beq_eq_false_iff_ne.2 h0
  have n1 : ¬ (0 ≤ k ∧ k ≤ 2) := by omega
  obtain ⟨W, hW⟩ : ∃ W, W = w.alloc (.cells #[.int .i64 k, .int .i64 x, .int .i64 y] 24) := ⟨_, rfl⟩
  have bb : Below w.heap.size w W := by rw [hW]; exact box_below _ _ _
  have D : At3D W w.heap.size k x y := ⟨by rw [hW]; exact heap_alloc_new _ _⟩
  obtain ⟨p0, p1, p2⟩ := D.c
  go_enter Tryd.func12, Tryd.ntmps12
  go_wp2_with (first | (rw [← hW]; clear hW) | fail)
  refine (inS_lit (c := true) (decide_eq_true hx) _).mono ?_
  rintro e wi ⟨rfl, bn⟩
  replace bb := below_step bb bn
  replace D := D.below bn
  clear p0 p1 p2 bn
  obtain ⟨p0, p1, p2⟩ := D.c
  go_wp2_with (first | (rw [← hW]; clear hW) | fail)
  refine (inS_lit (c := true) (decide_eq_true hy) _).mono ?_
  rintro e wi ⟨rfl, bn⟩
  replace bb := below_step bb bn
  replace D := D.below bn
  clear p0 p1 p2 bn
  obtain ⟨p0, p1, p2⟩ := D.c
  go_wp2_with (first | (rw [← hW]; clear hW) | fail)
  refine (inS_lit (c := false) (decide_eq_false n1) _).mono ?_
  rintro e wi ⟨rfl, bn⟩
  replace bb := below_step bb bn
  replace D := D.below bn
  clear p0 p1 p2 bn
  obtain ⟨p0, p1, p2⟩ := D.c
  go_wp2_with (first | (rw [← hW]; clear hW) | fail)
  refine (inS_lit (c := true) (decide_eq_true hk) _).mono ?_
  rintro e wi ⟨rfl, bn⟩
  replace bb := below_step bb bn
  replace D := D.below bn
  clear p0 p1 p2 bn
  obtain ⟨p0, p1, p2⟩ := D.c
  go_wp2
  go_ret
  exact ⟨rfl, bb⟩
set_option maxRecDepth 100000 in
set_option maxHeartbeats 3200000 in
theorem specDeedNo (k x y : Int) (w : World) (hx : -99 ≤ x ∧ x ≤ 99) (hy : -99 ≤ y ∧ y ≤ 99) (n1 : ¬ (0 ≤ k ∧ k ≤ 2)) (n2 : ¬ (4 ≤ k ∧ k ≤ 6)) (b3 b7 b8 : Bool) (h3 : (k == 3) = b3) (h7 : (k == 7) = b7) (h8 : (k == 8) = b8)
    (hn : (x = 0 ∧ y = 0) → b3 = false ∧ b7 = false ∧ b8 = false) : Calls Tryd.prog 12 #[.agg #[.int .i64 k, .int .i64 x, .int .i64 y]] w (Gives (strV []) w) := by
  rcases x0 : (x == 0) with _ | _
  · obtain ⟨W, hW⟩ : ∃ W, W = w.alloc (.cells #[.int .i64 k, .int .i64 x, .int .i64 y] 24) := ⟨_, rfl⟩
    have bb : Below w.heap.size w W := by rw [hW]; exact box_below _ _ _
    have D : At3D W w.heap.size k x y := ⟨by rw [hW]; exact heap_alloc_new _ _⟩
    obtain ⟨p0, p1, p2⟩ := D.c
    go_enter Tryd.func12, Tryd.ntmps12
    go_wp2_with (first | (rw [← hW]; clear hW) | fail)
    refine (inS_lit (c := true) (decide_eq_true hx) _).mono ?_
    rintro e wi ⟨rfl, bn⟩
    replace bb := below_step bb bn
    replace D := D.below bn
    clear p0 p1 p2 bn
    obtain ⟨p0, p1, p2⟩ := D.c
    go_wp2_with (first | (rw [← hW]; clear hW) | fail)
    refine (inS_lit (c := true) (decide_eq_true hy) _).mono ?_
    rintro e wi ⟨rfl, bn⟩
    replace bb := below_step bb bn
    replace D := D.below bn
    clear p0 p1 p2 bn
    obtain ⟨p0, p1, p2⟩ := D.c
    go_wp2_with (first | (rw [← hW]; clear hW) | fail)
    refine (inS_lit (c := false) (decide_eq_false n1) _).mono ?_
    rintro e wi ⟨rfl, bn⟩
    replace bb := below_step bb bn
    replace D := D.below bn
    clear p0 p1 p2 bn
    obtain ⟨p0, p1, p2⟩ := D.c
    go_wp2_with (first | (rw [← hW]; clear hW) | fail)
    refine (inS_lit (c := false) (decide_eq_false n2) _).mono ?_
    rintro e wi ⟨rfl, bn⟩
    replace bb := below_step bb bn
    replace D := D.below bn
    clear p0 p1 p2 bn
    obtain ⟨p0, p1, p2⟩ := D.c
    go_wp2
    go_ret
    exact ⟨rfl, bb⟩
  · rcases y0 : (y == 0) with _ | _
    · obtain ⟨W, hW⟩ : ∃ W, W = w.alloc (.cells #[.int .i64 k, .int .i64 x, .int .i64 y] 24) := ⟨_, rfl⟩
      have bb : Below w.heap.size w W := by rw [hW]; exact box_below _ _ _
      have D : At3D W w.heap.size k x y := ⟨by rw [hW]; exact heap_alloc_new _ _⟩
      obtain ⟨p0, p1, p2⟩ := D.c
      go_enter Tryd.func12, Tryd.ntmps12
      go_wp2_with (first | (rw [← hW]; clear hW) | fail)
      refine (inS_lit (c := true) (decide_eq_true hx) _).mono ?_
      rintro e wi ⟨rfl, bn⟩
      replace bb := below_step bb bn
      replace D := D.below bn
      clear p0 p1 p2 bn
      obtain ⟨p0, p1, p2⟩ := D.c
      go_wp2_with (first | (rw [← hW]; clear hW) | fail)
      refine (inS_lit (c := true) (decide_eq_true hy) _).mono ?_
      rintro e wi ⟨rfl, bn⟩
      replace bb := below_step bb bn
      replace D := D.below bn
      clear p0 p1 p2 bn
      obtain ⟨p0, p1, p2⟩ := D.c
      go_wp2_with (first | (rw [← hW]; clear hW) | fail)
      refine (inS_lit (c := false) (decide_eq_false n1) _).mono ?_
      rintro e wi ⟨rfl, bn⟩
      replace bb := below_step bb bn
      replace D := D.below bn
      clear p0 p1 p2 bn
      obtain ⟨p0, p1, p2⟩ := D.c
      go_wp2_with (first | (rw [← hW]; clear hW) | fail)
      refine (inS_lit (c := false) (decide_eq_false n2) _).mono ?_
      rintro e wi ⟨rfl, bn⟩
      replace bb := below_step bb bn
      replace D := D.below bn
      clear p0 p1 p2 bn
      obtain ⟨p0, p1, p2⟩ := D.c
      go_wp2
      go_ret
      exact ⟨rfl, bb⟩
    · obtain ⟨rfl, rfl, rfl⟩ := hn ⟨beq_iff_eq.1 x0, beq_iff_eq.1 y0⟩
      obtain ⟨W, hW⟩ : ∃ W, W = w.alloc (.cells #[.int .i64 k, .int .i64 x, .int .i64 y] 24) := ⟨_, rfl⟩
      have bb : Below w.heap.size w W := by rw [hW]; exact box_below _ _ _
      have D : At3D W w.heap.size k x y := ⟨by rw [hW]; exact heap_alloc_new _ _⟩
      obtain ⟨p0, p1, p2⟩ := D.c
      go_enter Tryd.func12, Tryd.ntmps12
      go_wp2_with (first | (rw [← hW]; clear hW) | fail)
      refine (inS_lit (c := true) (decide_eq_true hx) _).mono ?_
      rintro e wi ⟨rfl, bn⟩
      replace bb := below_step bb bn
      replace D := D.below bn
      clear p0 p1 p2 bn
      obtain ⟨p0, p1, p2⟩ := D.c
      go_wp2_with (first | (rw [← hW]; clear hW) | fail)
      refine (inS_lit (c := true) (decide_eq_true hy) _).mono ?_
      rintro e wi ⟨rfl, bn⟩
      replace bb := below_step bb bn
      replace D := D.below bn
      clear p0 p1 p2 bn
      obtain ⟨p0, p1, p2⟩ := D.c
      go_wp2_with (first | (rw [← hW]; clear hW) | fail)
      refine (inS_lit (c := false) (decide_eq_false n1) _).mono ?_
      rintro e wi ⟨rfl, bn⟩
      replace bb := below_step bb bn
      replace D := D.below bn
      clear p0 p1 p2 bn
      obtain ⟨p0, p1, p2⟩ := D.c
      go_wp2_with (first | (rw [← hW]; clear hW) | fail)
      refine (inS_lit (c := false) (decide_eq_false n2) _).mono ?_
      rintro e wi ⟨rfl, bn⟩
      replace bb := below_step bb bn
      replace D := D.below bn
      clear p0 p1 p2 bn
      obtain ⟨p0, p1, p2⟩ := D.c
      go_wp2
      go_ret
      exact ⟨rfl, bb⟩
set_option maxRecDepth 100000 in
theorem specDeedW3 (w : World) : Calls Tryd.prog 12 #[.agg #[.int .i64 3, .int .i64 0, .int .i64 0]] w (Gives (strV [116, 117, 114, 110]) w) := by
  obtain ⟨W, hW⟩ : ∃ W, W = w.alloc (.cells #[.int .i64 3, .int .i64 0, .int .i64 0] 24) := ⟨_, rfl⟩
  have bb : Below w.heap.size w W := by rw [hW]; exact box_below _ _ _
  have D : At3D W w.heap.size 3 0 0 := ⟨by rw [hW]; exact heap_alloc_new _ _⟩
  obtain ⟨p0, p1, p2⟩ := D.c
  go_enter Tryd.func12, Tryd.ntmps12
  go_wp2_with (first | (rw [← hW]; clear hW) | fail)
  refine (inS_lit (c := true) (by decide) _).mono ?_
  rintro e wi ⟨rfl, bn⟩
  replace bb := below_step bb bn
  replace D := D.below bn
  clear p0 p1 p2 bn
  obtain ⟨p0, p1, p2⟩ := D.c
  go_wp2_with (first | (rw [← hW]; clear hW) | fail)
  refine (inS_lit (c := true) (by decide) _).mono ?_
  rintro e wi ⟨rfl, bn⟩
  replace bb := below_step bb bn
  replace D := D.below bn
  clear p0 p1 p2 bn
  obtain ⟨p0, p1, p2⟩ := D.c
  go_wp2_with (first | (rw [← hW]; clear hW) | fail)
  refine (inS_lit (c := false) (by decide) _).mono ?_
  rintro e wi ⟨rfl, bn⟩
  replace bb := below_step bb bn
  replace D := D.below bn
  clear p0 p1 p2 bn
  obtain ⟨p0, p1, p2⟩ := D.c
  go_wp2_with (first | (rw [← hW]; clear hW) | fail)
  refine (inS_lit (c := false) (by decide) _).mono ?_
  rintro e wi ⟨rfl, bn⟩
  replace bb := below_step bb bn
  replace D := D.below bn
  clear p0 p1 p2 bn
  obtain ⟨p0, p1, p2⟩ := D.c
  go_wp2
  go_ret
  exact ⟨rfl, bb⟩
set_option maxRecDepth 100000 in
theorem specDeedW7 (w : World) : Calls Tryd.prog 12 #[.agg #[.int .i64 7, .int .i64 0, .int .i64 0]] w (Gives (strV [102, 105, 108, 108]) w) := by
  obtain ⟨W, hW⟩ : ∃ W, W = w.alloc (.cells #[.int .i64 7, .int .i64 0, .int .i64 0] 24) := ⟨_, rfl⟩
  have bb : Below w.heap.size w W := by rw [hW]; exact box_below _ _ _
  have D : At3D W w.heap.size 7 0 0 := ⟨by rw [hW]; exact heap_alloc_new _ _⟩
  obtain ⟨p0, p1, p2⟩ := D.c
  go_enter Tryd.func12, Tryd.ntmps12
  go_wp2_with (first | (rw [← hW]; clear hW) | fail)
  refine (inS_lit (c := true) (by decide) _).mono ?_
  rintro e wi ⟨rfl, bn⟩
  replace bb := below_step bb bn
  replace D := D.below bn
  clear p0 p1 p2 bn
  obtain ⟨p0, p1, p2⟩ := D.c
  go_wp2_with (first | (rw [← hW]; clear hW) | fail)
  refine (inS_lit (c := true) (by decide) _).mono ?_
  rintro e wi ⟨rfl, bn⟩
  replace bb := below_step bb bn
  replace D := D.below bn
  clear p0 p1 p2 bn
  obtain ⟨p0, p1, p2⟩ := D.c
  go_wp2_with (first | (rw [← hW]; clear hW) | fail)
  refine (inS_lit (c := false) (by decide) _).mono ?_
  rintro e wi ⟨rfl, bn⟩
  replace bb := below_step bb bn
  replace D := D.below bn
  clear p0 p1 p2 bn
  obtain ⟨p0, p1, p2⟩ := D.c
  go_wp2_with (first | (rw [← hW]; clear hW) | fail)
  refine (inS_lit (c := false) (by decide) _).mono ?_
  rintro e wi ⟨rfl, bn⟩
  replace bb := below_step bb bn
  replace D := D.below bn
  clear p0 p1 p2 bn
  obtain ⟨p0, p1, p2⟩ := D.c
  go_wp2
  go_ret
  exact ⟨rfl, bb⟩
set_option maxRecDepth 100000 in
theorem specDeedW8 (w : World) : Calls Tryd.prog 12 #[.agg #[.int .i64 8, .int .i64 0, .int .i64 0]] w (Gives (strV [98, 97, 99, 107]) w) := by
  obtain ⟨W, hW⟩ : ∃ W, W = w.alloc (.cells #[.int .i64 8, .int .i64 0, .int .i64 0] 24) := ⟨_, rfl⟩
  have bb : Below w.heap.size w W := by rw [hW]; exact box_below _ _ _
  have D : At3D W w.heap.size 8 0 0 := ⟨by rw [hW]; exact heap_alloc_new _ _⟩
  obtain ⟨p0, p1, p2⟩ := D.c
  go_enter Tryd.func12, Tryd.ntmps12
  go_wp2_with (first | (rw [← hW]; clear hW) | fail)
  refine (inS_lit (c := true) (by decide) _).mono ?_
  rintro e wi ⟨rfl, bn⟩
  replace bb := below_step bb bn
  replace D := D.below bn
  clear p0 p1 p2 bn
  obtain ⟨p0, p1, p2⟩ := D.c
  go_wp2_with (first | (rw [← hW]; clear hW) | fail)
  refine (inS_lit (c := true) (by decide) _).mono ?_
  rintro e wi ⟨rfl, bn⟩
  replace bb := below_step bb bn
  replace D := D.below bn
  clear p0 p1 p2 bn
  obtain ⟨p0, p1, p2⟩ := D.c
  go_wp2_with (first | (rw [← hW]; clear hW) | fail)
  refine (inS_lit (c := false) (by decide) _).mono ?_
  rintro e wi ⟨rfl, bn⟩
  replace bb := below_step bb bn
  replace D := D.below bn
  clear p0 p1 p2 bn
  obtain ⟨p0, p1, p2⟩ := D.c
  go_wp2_with (first | (rw [← hW]; clear hW) | fail)
  refine (inS_lit (c := false) (by decide) _).mono ?_
  rintro e wi ⟨rfl, bn⟩
  replace bb := below_step bb bn
  replace D := D.below bn
  clear p0 p1 p2 bn
  obtain ⟨p0, p1, p2⟩ := D.c
  go_wp2
  go_ret
  exact ⟨rfl, bb⟩
theorem specDeedT_any (k x y : Int) (w : World) : Calls Tryd.prog 12 #[.agg #[.int .i64 k, .int .i64 x, .int .i64 y]] w (Gives (strV (deedT ((k, x), y))) w) := by
  by_cases h : (-99 ≤ x ∧ x ≤ 99) ∧ -99 ≤ y ∧ y ≤ 99
  · obtain ⟨hx, hy⟩ := h
    by_cases hk : 0 ≤ k ∧ k ≤ 2
    · rw [deedT_two hk hx hy]
      rcases (by omega : k = 0 ∨ k = 1 ∨ k = 2) with rfl | rfl | rfl
      · exact specDeed0 x y w hx hy
      · exact specDeed1 x y w hx hy
      · exact specDeed2 x y w hx hy
    · by_cases hk4 : 4 ≤ k ∧ k ≤ 6
      · by_cases h0 : y = 0
        · subst h0
          rw [deedT_one hk4 hx]
          rcases (by omega : k = 4 ∨ k = 5 ∨ k = 6) with rfl | rfl | rfl
          · exact specDeed4 x w hx
          · exact specDeed5 x w hx
          · exact specDeed6 x w hx
        · rw [deedT_bad (by omega)]
          exact specDeedOne k x y w hx hy hk4 h0
      · by_cases hw : (k = 3 ∨ k = 7 ∨ k = 8) ∧ x = 0 ∧ y = 0
        · obtain ⟨hw, rfl, rfl⟩ := hw
          rcases hw with rfl | rfl | rfl
          · rw [deedT_turn]; exact specDeedW3 w
          · rw [deedT_fill]; exact specDeedW7 w
          · rw [deedT_back]; exact specDeedW8 w
        · rw [deedT_bad (by omega)]
          exact specDeedNo k x y w hx hy hk hk4 _ _ _ rfl rfl rfl fun h => ⟨beq_eq_false_iff_ne.2 (by omega), beq_eq_false_iff_ne.2 (by omega), beq_eq_false_iff_ne.2 (by omega)⟩
  · rw [deedT_bad (by omega)]
    exact specDeedOut k x y w h
end Go.Proofs.YtpdnakiilhohdaaDoor
