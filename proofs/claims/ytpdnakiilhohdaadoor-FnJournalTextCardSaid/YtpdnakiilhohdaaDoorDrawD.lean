/- The draw of a deed. No conditions but those typed. -/
import Derived.Test.YtpdnakiilhohdaaDoorSpots
import Derived.Deep.RegionWith
import Derived.Deep.CutRange
import Derived.Deep.CutBlock
namespace Go.Proofs.YtpdnakiilhohdaaDoor
open Go.RowKit Go.Sort

theorem cells3_at {w : World} {g : Nat} {a b c : Value} {T : TypeId} (h : w.heap[g]? = some (.cells #[a, b, c] T (0, 0))) : w.cell? ⟨g, 0, none⟩ = some a ∧ w.cell? ⟨g, 1, none⟩ = some b ∧ w.cell? ⟨g, 2, none⟩ = some c := by
  refine ⟨?_, ?_, ?_⟩ <;> simp [World.cell?, h]
theorem Rd.al {w : World} {g n c p : Nat} {A : Option Addr} (h : Rd w g A n c p) (o : Obj) : Rd (w.alloc o) g A n c p := h.below ((Below.refl _ _).alloc (Nat.le_refl _) o)
theorem grown_al {w wr : World} {g : Nat} (h : w.grownBy wr (some g)) (o : Obj) : w.grownBy (wr.alloc o) (some g) := grown_below h ((Below.refl _ _).alloc (Nat.le_refl _) o)
theorem Rd.setAt {w : World} {g n c p B j : Nat} {A : Option Addr} {v : Value} (h : Rd w g A n c p) (hB : g < B) : Rd (w.setCell ⟨B, j, none⟩ v) g A n c p :=
  ⟨(heap_setCell_other _ _ _ _ (show g ≠ B by omega)).trans h.blk, h.bytes.below ((Below.refl g w).setCell (p := ⟨B, j, none⟩) (Nat.le_of_lt hB) v), h.len⟩
/-- the kinds of deeds, as they are drawn -/
def kindsL : List Int := [0, 0, 1, 2, 3, 4, 5, 6, 7, 8]
theorem kind_at {z : Nat} (hz : z < 10) : ∃ K : Int, kindsL[z]? = some K ∧ 0 ≤ K ∧ K ≤ 8 := by
  have h : ∀ j : Fin 10, ∃ K : Int, kindsL[(j : Nat)]? = some K ∧ 0 ≤ K ∧ K ≤ 8 := by decide +revert
  exact h ⟨z, hz⟩
theorem kinds_cell {w : World} {L z : Nat} {T : TypeId} {K : Int} (hK : kindsL[z]? = some K) (h : w.heap[L]? = some (.cells #[.int .i64 0, .int .i64 0, .int .i64 1, .int .i64 2, .int .i64 3, .int .i64 4, .int .i64 5, .int .i64 6, .int .i64 7, .int .i64 8] T (0, 0))) : w.cell? ⟨L, z, none⟩ = some (.int .i64 K) := by
  rw [cell_of_row w L z _ _ _ h]
  have e : (#[.int .i64 0, .int .i64 0, .int .i64 1, .int .i64 2, .int .i64 3, .int .i64 4, .int .i64 5, .int .i64 6, .int .i64 7, .int .i64 8] : Array Value) = (kindsL.map fun k => Value.int .i64 k).toArray := rfl
  rw [e, List.getElem?_toArray, List.getElem?_map, hK]; rfl
theorem kinds_lst {z : Nat} {K : Int} (hK : kindsL[z]? = some K) : ([.int .i64 0, .int .i64 0, .int .i64 1, .int .i64 2, .int .i64 3, .int .i64 4, .int .i64 5, .int .i64 6, .int .i64 7, .int .i64 8] : List Value)[z]? = some (.int .i64 K) := by
  have e : ([.int .i64 0, .int .i64 0, .int .i64 1, .int .i64 2, .int .i64 3, .int .i64 4, .int .i64 5, .int .i64 6, .int .i64 7, .int .i64 8] : List Value) = (kindsL.map fun k => Value.int .i64 k) := rfl
  rw [e, List.getElem?_map, hK]; rfl
theorem kinds_arr {z : Nat} {K : Int} (hK : kindsL[z]? = some K) : (#[.int .i64 0, .int .i64 0, .int .i64 1, .int .i64 2, .int .i64 3, .int .i64 4, .int .i64 5, .int .i64 6, .int .i64 7, .int .i64 8] : Array Value)[z]? = some (.int .i64 K) := by
  rw [List.getElem?_toArray]; exact kinds_lst hK
theorem row_al {w : World} {B : Nat} {o : Obj} (h : w.heap[B]? = some o) (o' : Obj) : (w.alloc o').heap[B]? = some o :=
  (((Below.refl _ w).alloc (Nat.le_refl _) o').block B (Array.getElem?_eq_some_iff.1 h).1).trans h
theorem al_first (w : World) (o1 o2 : Obj) : ((w.alloc o1).alloc o2).heap[w.heap.size]? = some o1 := by
  have h1 := heap_alloc_new w o1
  exact ((Below.refl (w.heap.size + 1) (w.alloc o1)).alloc (by simp) o2).block w.heap.size (by omega) |>.trans h1
theorem al_second (w : World) (o1 o2 : Obj) : ((w.alloc o1).alloc o2).heap[w.heap.size + 1]? = some o2 := by
  have h1 := heap_alloc_new (w.alloc o1) o2
  rw [World.size_alloc] at h1
  exact h1
theorem fifty {z : Int} (h0 : 0 ≤ z) (h1 : z < 60) : ∃ T : Int, 0 ≤ T ∧ T ≤ 1 ∧ z / 59 = T ∧ z.tdiv 59 = T := by
  have e : z.tdiv 59 = z / 59 := Int.tdiv_eq_ediv_of_nonneg h0
  exact ⟨z / 59, by omega, by omega, rfl, e⟩
/-- the reader at its place, what was there kept, the answer's box -/
structure DSt (w X : World) (g n c : Nat) (A : Option Addr) (q : Nat) : Prop where
  rd : Rd X g A n c q
  gr : w.grownBy X (some g)
  row : X.heap[w.heap.size]? = some (.cells #[.int .i64 0, .int .i64 0, .int .i64 0] 24 (0, 0))
  lt : g < w.heap.size ∧ w.heap.size < X.heap.size
section
variable {w X Y : World} {g n c q r : Nat} {A : Option Addr}
theorem DSt.al (J : DSt w X g n c A q) (o : Obj) : DSt w (X.alloc o) g n c A q :=
  ⟨J.rd.al o, grown_al J.gr o, (((Below.refl _ _).alloc (Nat.le_refl _) o).block _ J.lt.2).trans J.row, J.lt.1, by have := J.lt.2; rw [World.size_alloc]; omega⟩
theorem DSt.drew (J : DSt w X g n c A q) : DSt w X.drew g n c A q := ⟨J.rd.drew 1, grown_drewN J.gr 1, J.row, J.lt⟩
theorem DSt.pick (J : DSt w X g n c A q) (hr : Rd Y g A n c r) (h : X.grownBy Y (some g)) : DSt w Y g n c A r :=
  ⟨hr, grown_trans J.gr h, (h.block _ J.lt.2 (fun e => by injection e with e; have := J.lt.1; omega)).trans J.row, J.lt.1, Nat.lt_of_lt_of_le J.lt.2 h.size⟩
theorem DSt.set (J : DSt w X g n c A q) {B : Nat} (hB : w.heap.size < B) (j : Nat) (v : Value) : DSt w (X.setCell ⟨B, j, none⟩ v) g n c A q :=
  ⟨J.rd.setAt (by have := J.lt.1; omega), grown_app J.gr (grown_set X B j v) (fun k e => by injection e with e; omega), (heap_setCell_other _ _ _ _ (show w.heap.size ≠ B by omega)).trans J.row, J.lt.1, by have := J.lt.2; simpa [World.setCell] using this⟩
theorem DSt.set3 (J : DSt w X g n c A q) {B : Nat} (hB : w.heap.size < B) (a b d : Value) : DSt w (((X.setCell ⟨B, 0, none⟩ a).setCell ⟨B, 1, none⟩ b).setCell ⟨B, 2, none⟩ d) g n c A q := ((J.set hB 0 a).set hB 1 b).set hB 2 d
theorem set3_row {B : Nat} {a b c x y z : Value} {T : TypeId} (h : X.heap[B]? = some (.cells #[a, b, c] T (0, 0))) : (((X.setCell ⟨B, 0, none⟩ x).setCell ⟨B, 1, none⟩ y).setCell ⟨B, 2, none⟩ z).heap[B]? = some (.cells #[x, y, z] T (0, 0)) :=
  (heap_setCell_same _ B 2 _ _ z ((heap_setCell_same _ B 1 _ _ y ((heap_setCell_same X B 0 _ _ x h).trans rfl)).trans rfl)).trans rfl
end
theorem hund_at {z : Nat} (hz : z < 3) : ∃ K : Int, (#[.int .i64 (-100), .int .i64 100, .int .i64 7] : Array Value)[z]? = some (.int .i64 K) ∧ ([.int .i64 (-100), .int .i64 100, .int .i64 7] : List Value)[z]? = some (.int .i64 K) := by
  rcases (show z = 0 ∨ z = 1 ∨ z = 2 by omega) with rfl | rfl | rfl
  · exact ⟨-100, rfl, rfl⟩
  · exact ⟨100, rfl, rfl⟩
  · exact ⟨7, rfl, rfl⟩
set_option maxRecDepth 100000 in
set_option maxHeartbeats 6400000 in
theorem deed_any (g n c p : Nat) (A : Option Addr) (ps : List Sp) (v : Value) (w : World) (hr : Rd w g A n c p) (hs : ∀ w', w.grownBy w' (some g) → Reads w' w'.heap.size v ps) (hl : ps.length ≤ 100000) (hp : p ≤ 90000) :
    Calls Tryd.prog 31 #[.pointer (some ⟨g, 0, none⟩), v] w fun e w' => ∃ (k x y : Int) (q : Nat), e = .returned (.agg #[.int .i64 k, .int .i64 x, .int .i64 y]) ∧ Rd w' g A n c q ∧ q ≤ p + 8 ∧ w.grownBy w' (some g) := by
  have hg := hr.lt
  have h0 := hs w ⟨rfl, rfl, rfl, Nat.le_refl _, fun _ _ _ => rfl⟩
  obtain ⟨Av, cv, rfl, hcv, hmv⟩ := h0.slice
  clear h0
  obtain ⟨W, hW⟩ : ∃ W, W = w.alloc (.cells #[.int .i64 0, .int .i64 0, .int .i64 0] 24) := ⟨_, rfl⟩
  have rW : W.heap[w.heap.size]? = some (.cells #[.int .i64 0, .int .i64 0, .int .i64 0] 24 (0, 0)) := by rw [hW]; exact heap_alloc_new w _
  have r0 : Rd W g A n c p := by rw [hW]; exact hr.al _
  have g0 : w.grownBy W (some g) := by rw [hW]; exact grown_al ⟨rfl, rfl, rfl, Nat.le_refl _, fun _ _ _ => rfl⟩ _
  have sW : W.heap.size = w.heap.size + 1 := by rw [hW]; simp
  clear hr
  go_enter Tryd.func31, Tryd.ntmps31
  go_upto_region 1 with fail
  rw [← hW]
  clear hW
  have J00 : DSt w W g n c A p := ⟨r0, g0, rW, hg, by omega⟩
  have hgW : g < W.heap.size := by omega
  have hwW : w.heap.size < W.heap.size := by omega
  clear sW rW r0 g0
  have J0 : DSt w W.drew g n c A p := J00.drew
  have J0L : DSt w (W.alloc (.cells #[.int .i64 0, .int .i64 0, .int .i64 1, .int .i64 2, .int .i64 3, .int .i64 4, .int .i64 5, .int .i64 6, .int .i64 7, .int .i64 8] 3)).drew g n c A p := (J00.al _).drew
  have J0D : DSt w (W.alloc (.cells #[.int .i64 0, .int .i64 0, .int .i64 0] 24)).drew g n c A p := (J00.al _).drew
  have J0LD : DSt w ((W.alloc (.cells #[.int .i64 0, .int .i64 0, .int .i64 1, .int .i64 2, .int .i64 3, .int .i64 4, .int .i64 5, .int .i64 6, .int .i64 7, .int .i64 8] 3)).alloc (.cells #[.int .i64 0, .int .i64 0, .int .i64 0] 24)).drew g n c A p := ((J00.al _).al _).drew
  have J0DL : DSt w ((W.alloc (.cells #[.int .i64 0, .int .i64 0, .int .i64 0] 24)).alloc (.cells #[.int .i64 0, .int .i64 0, .int .i64 1, .int .i64 2, .int .i64 3, .int .i64 4, .int .i64 5, .int .i64 6, .int .i64 7, .int .i64 8] 3)).drew g n c A p := ((J00.al _).al _).drew
  go_cut [5] from 7 (fun s5 wx => ∃ B K, s5 = .pointer (some ⟨B, 0, none⟩) ∧ wx.heap[B]? = some (.cells #[.int .i64 K, .int .i64 0, .int .i64 0] 24 (0, 0)) ∧ DSt w wx g n c A (p + 1 + 1) ∧ w.heap.size < B)
  case first =>
    go_region_with (first
      | (go_at_call 42; (with_reducible refine (pick_any g n c p A 10 (W.drew) J0.rd (by omega) (by omega) (by omega)).mono ?_); rintro e w1 ⟨z1, rfl, z1a, z1b, r1, g1⟩; have J1 := J0.pick r1 g1; have hg1 := r1.lt; obtain ⟨m, rfl⟩ := Int.eq_ofNat_of_zero_le z1a; obtain ⟨K, hK, hK0, hK1⟩ := kind_at (show m < 10 by omega); have hA1 : (#[.int .i64 0, .int .i64 0, .int .i64 1, .int .i64 2, .int .i64 3, .int .i64 4, .int .i64 5, .int .i64 6, .int .i64 7, .int .i64 8] : Array Value)[m]? = some (.int .i64 K) := kinds_arr hK; have hA2 : ([.int .i64 0, .int .i64 0, .int .i64 1, .int .i64 2, .int .i64 3, .int .i64 4, .int .i64 5, .int .i64 6, .int .i64 7, .int .i64 8] : List Value)[m]? = some (.int .i64 K) := kinds_lst hK; have hi0 : (0 : Int) ≤ (m : Int) := Int.natCast_nonneg _; have hi1 : (m : Int) < 10 := z1b; have nL := kinds_cell hK (heap_alloc_new w1 (.cells #[.int .i64 0, .int .i64 0, .int .i64 1, .int .i64 2, .int .i64 3, .int .i64 4, .int .i64 5, .int .i64 6, .int .i64 7, .int .i64 8] 3)); have nLD := kinds_cell hK (al_first w1 (.cells #[.int .i64 0, .int .i64 0, .int .i64 1, .int .i64 2, .int .i64 3, .int .i64 4, .int .i64 5, .int .i64 6, .int .i64 7, .int .i64 8] 3) (.cells #[.int .i64 0, .int .i64 0, .int .i64 0] 24)); have nDL := kinds_cell hK (al_second w1 (.cells #[.int .i64 0, .int .i64 0, .int .i64 0] 24) (.cells #[.int .i64 0, .int .i64 0, .int .i64 1, .int .i64 2, .int .i64 3, .int .i64 4, .int .i64 5, .int .i64 6, .int .i64 7, .int .i64 8] 3)); have J1L := J1.al (.cells #[.int .i64 0, .int .i64 0, .int .i64 1, .int .i64 2, .int .i64 3, .int .i64 4, .int .i64 5, .int .i64 6, .int .i64 7, .int .i64 8] 3); have J1D := J1.al (.cells #[.int .i64 0, .int .i64 0, .int .i64 0] 24); have J1LD := (J1.al (.cells #[.int .i64 0, .int .i64 0, .int .i64 1, .int .i64 2, .int .i64 3, .int .i64 4, .int .i64 5, .int .i64 6, .int .i64 7, .int .i64 8] 3)).al (.cells #[.int .i64 0, .int .i64 0, .int .i64 0] 24); have J1DL := (J1.al (.cells #[.int .i64 0, .int .i64 0, .int .i64 0] 24)).al (.cells #[.int .i64 0, .int .i64 0, .int .i64 1, .int .i64 2, .int .i64 3, .int .i64 4, .int .i64 5, .int .i64 6, .int .i64 7, .int .i64 8] 3); clear r1 g1)
      | (go_at_call 42; (with_reducible refine (pick_any g n c p A 10 ((W.alloc (.cells #[.int .i64 0, .int .i64 0, .int .i64 1, .int .i64 2, .int .i64 3, .int .i64 4, .int .i64 5, .int .i64 6, .int .i64 7, .int .i64 8] 3)).drew) J0L.rd (by omega) (by omega) (by omega)).mono ?_); rintro e w1 ⟨z1, rfl, z1a, z1b, r1, g1⟩; have J1 := J0L.pick r1 g1; have hg1 := r1.lt; obtain ⟨m, rfl⟩ := Int.eq_ofNat_of_zero_le z1a; obtain ⟨K, hK, hK0, hK1⟩ := kind_at (show m < 10 by omega); have hA1 : (#[.int .i64 0, .int .i64 0, .int .i64 1, .int .i64 2, .int .i64 3, .int .i64 4, .int .i64 5, .int .i64 6, .int .i64 7, .int .i64 8] : Array Value)[m]? = some (.int .i64 K) := kinds_arr hK; have hA2 : ([.int .i64 0, .int .i64 0, .int .i64 1, .int .i64 2, .int .i64 3, .int .i64 4, .int .i64 5, .int .i64 6, .int .i64 7, .int .i64 8] : List Value)[m]? = some (.int .i64 K) := kinds_lst hK; have hi0 : (0 : Int) ≤ (m : Int) := Int.natCast_nonneg _; have hi1 : (m : Int) < 10 := z1b; have rL := (g1.block (W.heap.size) (by first | (simp; done) | (simp; omega)) (fun e => by injection e with e; omega)).trans (show ((W.alloc (.cells #[.int .i64 0, .int .i64 0, .int .i64 1, .int .i64 2, .int .i64 3, .int .i64 4, .int .i64 5, .int .i64 6, .int .i64 7, .int .i64 8] 3)).drew).heap[W.heap.size]? = some _ from heap_alloc_new _ _); have cL := kinds_cell hK rL; have cLD := kinds_cell hK (row_al rL (.cells #[.int .i64 0, .int .i64 0, .int .i64 0] 24)); have nL := kinds_cell hK (heap_alloc_new w1 (.cells #[.int .i64 0, .int .i64 0, .int .i64 1, .int .i64 2, .int .i64 3, .int .i64 4, .int .i64 5, .int .i64 6, .int .i64 7, .int .i64 8] 3)); have nLD := kinds_cell hK (al_first w1 (.cells #[.int .i64 0, .int .i64 0, .int .i64 1, .int .i64 2, .int .i64 3, .int .i64 4, .int .i64 5, .int .i64 6, .int .i64 7, .int .i64 8] 3) (.cells #[.int .i64 0, .int .i64 0, .int .i64 0] 24)); have nDL := kinds_cell hK (al_second w1 (.cells #[.int .i64 0, .int .i64 0, .int .i64 0] 24) (.cells #[.int .i64 0, .int .i64 0, .int .i64 1, .int .i64 2, .int .i64 3, .int .i64 4, .int .i64 5, .int .i64 6, .int .i64 7, .int .i64 8] 3)); have J1L := J1.al (.cells #[.int .i64 0, .int .i64 0, .int .i64 1, .int .i64 2, .int .i64 3, .int .i64 4, .int .i64 5, .int .i64 6, .int .i64 7, .int .i64 8] 3); have J1D := J1.al (.cells #[.int .i64 0, .int .i64 0, .int .i64 0] 24); have J1LD := (J1.al (.cells #[.int .i64 0, .int .i64 0, .int .i64 1, .int .i64 2, .int .i64 3, .int .i64 4, .int .i64 5, .int .i64 6, .int .i64 7, .int .i64 8] 3)).al (.cells #[.int .i64 0, .int .i64 0, .int .i64 0] 24); have J1DL := (J1.al (.cells #[.int .i64 0, .int .i64 0, .int .i64 0] 24)).al (.cells #[.int .i64 0, .int .i64 0, .int .i64 1, .int .i64 2, .int .i64 3, .int .i64 4, .int .i64 5, .int .i64 6, .int .i64 7, .int .i64 8] 3); clear r1 g1)
      | (go_at_call 42; (with_reducible refine (pick_any g n c p A 10 ((W.alloc (.cells #[.int .i64 0, .int .i64 0, .int .i64 0] 24)).drew) J0D.rd (by omega) (by omega) (by omega)).mono ?_); rintro e w1 ⟨z1, rfl, z1a, z1b, r1, g1⟩; have J1 := J0D.pick r1 g1; have hg1 := r1.lt; obtain ⟨m, rfl⟩ := Int.eq_ofNat_of_zero_le z1a; obtain ⟨K, hK, hK0, hK1⟩ := kind_at (show m < 10 by omega); have hA1 : (#[.int .i64 0, .int .i64 0, .int .i64 1, .int .i64 2, .int .i64 3, .int .i64 4, .int .i64 5, .int .i64 6, .int .i64 7, .int .i64 8] : Array Value)[m]? = some (.int .i64 K) := kinds_arr hK; have hA2 : ([.int .i64 0, .int .i64 0, .int .i64 1, .int .i64 2, .int .i64 3, .int .i64 4, .int .i64 5, .int .i64 6, .int .i64 7, .int .i64 8] : List Value)[m]? = some (.int .i64 K) := kinds_lst hK; have hi0 : (0 : Int) ≤ (m : Int) := Int.natCast_nonneg _; have hi1 : (m : Int) < 10 := z1b; have rD := (g1.block (W.heap.size) (by first | (simp; done) | (simp; omega)) (fun e => by injection e with e; omega)).trans (show ((W.alloc (.cells #[.int .i64 0, .int .i64 0, .int .i64 0] 24)).drew).heap[W.heap.size]? = some _ from heap_alloc_new _ _); have cD0 := (cells3_at rD).1; have cD1 := (cells3_at rD).2.1; have cD2 := (cells3_at rD).2.2; have fD0 := frozen_of_row w1 _ 0 _ _ rD; have fD1 := frozen_of_row w1 _ 1 _ _ rD; have fD2 := frozen_of_row w1 _ 2 _ _ rD; have nL := kinds_cell hK (heap_alloc_new w1 (.cells #[.int .i64 0, .int .i64 0, .int .i64 1, .int .i64 2, .int .i64 3, .int .i64 4, .int .i64 5, .int .i64 6, .int .i64 7, .int .i64 8] 3)); have nLD := kinds_cell hK (al_first w1 (.cells #[.int .i64 0, .int .i64 0, .int .i64 1, .int .i64 2, .int .i64 3, .int .i64 4, .int .i64 5, .int .i64 6, .int .i64 7, .int .i64 8] 3) (.cells #[.int .i64 0, .int .i64 0, .int .i64 0] 24)); have nDL := kinds_cell hK (al_second w1 (.cells #[.int .i64 0, .int .i64 0, .int .i64 0] 24) (.cells #[.int .i64 0, .int .i64 0, .int .i64 1, .int .i64 2, .int .i64 3, .int .i64 4, .int .i64 5, .int .i64 6, .int .i64 7, .int .i64 8] 3)); have J1L := J1.al (.cells #[.int .i64 0, .int .i64 0, .int .i64 1, .int .i64 2, .int .i64 3, .int .i64 4, .int .i64 5, .int .i64 6, .int .i64 7, .int .i64 8] 3); have J1D := J1.al (.cells #[.int .i64 0, .int .i64 0, .int .i64 0] 24); have J1LD := (J1.al (.cells #[.int .i64 0, .int .i64 0, .int .i64 1, .int .i64 2, .int .i64 3, .int .i64 4, .int .i64 5, .int .i64 6, .int .i64 7, .int .i64 8] 3)).al (.cells #[.int .i64 0, .int .i64 0, .int .i64 0] 24); have J1DL := (J1.al (.cells #[.int .i64 0, .int .i64 0, .int .i64 0] 24)).al (.cells #[.int .i64 0, .int .i64 0, .int .i64 1, .int .i64 2, .int .i64 3, .int .i64 4, .int .i64 5, .int .i64 6, .int .i64 7, .int .i64 8] 3); clear r1 g1)
      | (go_at_call 42; (with_reducible refine (pick_any g n c p A 10 (((W.alloc (.cells #[.int .i64 0, .int .i64 0, .int .i64 1, .int .i64 2, .int .i64 3, .int .i64 4, .int .i64 5, .int .i64 6, .int .i64 7, .int .i64 8] 3)).alloc (.cells #[.int .i64 0, .int .i64 0, .int .i64 0] 24)).drew) J0LD.rd (by omega) (by omega) (by omega)).mono ?_); rintro e w1 ⟨z1, rfl, z1a, z1b, r1, g1⟩; have J1 := J0LD.pick r1 g1; have hg1 := r1.lt; obtain ⟨m, rfl⟩ := Int.eq_ofNat_of_zero_le z1a; obtain ⟨K, hK, hK0, hK1⟩ := kind_at (show m < 10 by omega); have hA1 : (#[.int .i64 0, .int .i64 0, .int .i64 1, .int .i64 2, .int .i64 3, .int .i64 4, .int .i64 5, .int .i64 6, .int .i64 7, .int .i64 8] : Array Value)[m]? = some (.int .i64 K) := kinds_arr hK; have hA2 : ([.int .i64 0, .int .i64 0, .int .i64 1, .int .i64 2, .int .i64 3, .int .i64 4, .int .i64 5, .int .i64 6, .int .i64 7, .int .i64 8] : List Value)[m]? = some (.int .i64 K) := kinds_lst hK; have hi0 : (0 : Int) ≤ (m : Int) := Int.natCast_nonneg _; have hi1 : (m : Int) < 10 := z1b; have rL := (g1.block (W.heap.size) (by first | (simp; done) | (simp; omega)) (fun e => by injection e with e; omega)).trans (show (((W.alloc (.cells #[.int .i64 0, .int .i64 0, .int .i64 1, .int .i64 2, .int .i64 3, .int .i64 4, .int .i64 5, .int .i64 6, .int .i64 7, .int .i64 8] 3)).alloc (.cells #[.int .i64 0, .int .i64 0, .int .i64 0] 24)).drew).heap[W.heap.size]? = some _ from al_first _ _ _); have rD := (g1.block (W.heap.size + 1) (by first | (simp; done) | (simp; omega)) (fun e => by injection e with e; omega)).trans (show (((W.alloc (.cells #[.int .i64 0, .int .i64 0, .int .i64 1, .int .i64 2, .int .i64 3, .int .i64 4, .int .i64 5, .int .i64 6, .int .i64 7, .int .i64 8] 3)).alloc (.cells #[.int .i64 0, .int .i64 0, .int .i64 0] 24)).drew).heap[W.heap.size + 1]? = some _ from al_second _ _ _); have cL := kinds_cell hK rL; have cLD := kinds_cell hK (row_al rL (.cells #[.int .i64 0, .int .i64 0, .int .i64 0] 24)); have cD0 := (cells3_at rD).1; have cD1 := (cells3_at rD).2.1; have cD2 := (cells3_at rD).2.2; have fD0 := frozen_of_row w1 _ 0 _ _ rD; have fD1 := frozen_of_row w1 _ 1 _ _ rD; have fD2 := frozen_of_row w1 _ 2 _ _ rD; have nL := kinds_cell hK (heap_alloc_new w1 (.cells #[.int .i64 0, .int .i64 0, .int .i64 1, .int .i64 2, .int .i64 3, .int .i64 4, .int .i64 5, .int .i64 6, .int .i64 7, .int .i64 8] 3)); have nLD := kinds_cell hK (al_first w1 (.cells #[.int .i64 0, .int .i64 0, .int .i64 1, .int .i64 2, .int .i64 3, .int .i64 4, .int .i64 5, .int .i64 6, .int .i64 7, .int .i64 8] 3) (.cells #[.int .i64 0, .int .i64 0, .int .i64 0] 24)); have nDL := kinds_cell hK (al_second w1 (.cells #[.int .i64 0, .int .i64 0, .int .i64 0] 24) (.cells #[.int .i64 0, .int .i64 0, .int .i64 1, .int .i64 2, .int .i64 3, .int .i64 4, .int .i64 5, .int .i64 6, .int .i64 7, .int .i64 8] 3)); have J1L := J1.al (.cells #[.int .i64 0, .int .i64 0, .int .i64 1, .int .i64 2, .int .i64 3, .int .i64 4, .int .i64 5, .int .i64 6, .int .i64 7, .int .i64 8] 3); have J1D := J1.al (.cells #[.int .i64 0, .int .i64 0, .int .i64 0] 24); have J1LD := (J1.al (.cells #[.int .i64 0, .int .i64 0, .int .i64 1, .int .i64 2, .int .i64 3, .int .i64 4, .int .i64 5, .int .i64 6, .int .i64 7, .int .i64 8] 3)).al (.cells #[.int .i64 0, .int .i64 0, .int .i64 0] 24); have J1DL := (J1.al (.cells #[.int .i64 0, .int .i64 0, .int .i64 0] 24)).al (.cells #[.int .i64 0, .int .i64 0, .int .i64 1, .int .i64 2, .int .i64 3, .int .i64 4, .int .i64 5, .int .i64 6, .int .i64 7, .int .i64 8] 3); clear r1 g1)
      | (go_at_call 42; (with_reducible refine (pick_any g n c p A 10 (((W.alloc (.cells #[.int .i64 0, .int .i64 0, .int .i64 0] 24)).alloc (.cells #[.int .i64 0, .int .i64 0, .int .i64 1, .int .i64 2, .int .i64 3, .int .i64 4, .int .i64 5, .int .i64 6, .int .i64 7, .int .i64 8] 3)).drew) J0DL.rd (by omega) (by omega) (by omega)).mono ?_); rintro e w1 ⟨z1, rfl, z1a, z1b, r1, g1⟩; have J1 := J0DL.pick r1 g1; have hg1 := r1.lt; obtain ⟨m, rfl⟩ := Int.eq_ofNat_of_zero_le z1a; obtain ⟨K, hK, hK0, hK1⟩ := kind_at (show m < 10 by omega); have hA1 : (#[.int .i64 0, .int .i64 0, .int .i64 1, .int .i64 2, .int .i64 3, .int .i64 4, .int .i64 5, .int .i64 6, .int .i64 7, .int .i64 8] : Array Value)[m]? = some (.int .i64 K) := kinds_arr hK; have hA2 : ([.int .i64 0, .int .i64 0, .int .i64 1, .int .i64 2, .int .i64 3, .int .i64 4, .int .i64 5, .int .i64 6, .int .i64 7, .int .i64 8] : List Value)[m]? = some (.int .i64 K) := kinds_lst hK; have hi0 : (0 : Int) ≤ (m : Int) := Int.natCast_nonneg _; have hi1 : (m : Int) < 10 := z1b; have rD := (g1.block (W.heap.size) (by first | (simp; done) | (simp; omega)) (fun e => by injection e with e; omega)).trans (show (((W.alloc (.cells #[.int .i64 0, .int .i64 0, .int .i64 0] 24)).alloc (.cells #[.int .i64 0, .int .i64 0, .int .i64 1, .int .i64 2, .int .i64 3, .int .i64 4, .int .i64 5, .int .i64 6, .int .i64 7, .int .i64 8] 3)).drew).heap[W.heap.size]? = some _ from al_first _ _ _); have rL := (g1.block (W.heap.size + 1) (by first | (simp; done) | (simp; omega)) (fun e => by injection e with e; omega)).trans (show (((W.alloc (.cells #[.int .i64 0, .int .i64 0, .int .i64 0] 24)).alloc (.cells #[.int .i64 0, .int .i64 0, .int .i64 1, .int .i64 2, .int .i64 3, .int .i64 4, .int .i64 5, .int .i64 6, .int .i64 7, .int .i64 8] 3)).drew).heap[W.heap.size + 1]? = some _ from al_second _ _ _); have cL := kinds_cell hK rL; have cLD := kinds_cell hK (row_al rL (.cells #[.int .i64 0, .int .i64 0, .int .i64 0] 24)); have cD0 := (cells3_at rD).1; have cD1 := (cells3_at rD).2.1; have cD2 := (cells3_at rD).2.2; have fD0 := frozen_of_row w1 _ 0 _ _ rD; have fD1 := frozen_of_row w1 _ 1 _ _ rD; have fD2 := frozen_of_row w1 _ 2 _ _ rD; have nL := kinds_cell hK (heap_alloc_new w1 (.cells #[.int .i64 0, .int .i64 0, .int .i64 1, .int .i64 2, .int .i64 3, .int .i64 4, .int .i64 5, .int .i64 6, .int .i64 7, .int .i64 8] 3)); have nLD := kinds_cell hK (al_first w1 (.cells #[.int .i64 0, .int .i64 0, .int .i64 1, .int .i64 2, .int .i64 3, .int .i64 4, .int .i64 5, .int .i64 6, .int .i64 7, .int .i64 8] 3) (.cells #[.int .i64 0, .int .i64 0, .int .i64 0] 24)); have nDL := kinds_cell hK (al_second w1 (.cells #[.int .i64 0, .int .i64 0, .int .i64 0] 24) (.cells #[.int .i64 0, .int .i64 0, .int .i64 1, .int .i64 2, .int .i64 3, .int .i64 4, .int .i64 5, .int .i64 6, .int .i64 7, .int .i64 8] 3)); have J1L := J1.al (.cells #[.int .i64 0, .int .i64 0, .int .i64 1, .int .i64 2, .int .i64 3, .int .i64 4, .int .i64 5, .int .i64 6, .int .i64 7, .int .i64 8] 3); have J1D := J1.al (.cells #[.int .i64 0, .int .i64 0, .int .i64 0] 24); have J1LD := (J1.al (.cells #[.int .i64 0, .int .i64 0, .int .i64 1, .int .i64 2, .int .i64 3, .int .i64 4, .int .i64 5, .int .i64 6, .int .i64 7, .int .i64 8] 3)).al (.cells #[.int .i64 0, .int .i64 0, .int .i64 0] 24); have J1DL := (J1.al (.cells #[.int .i64 0, .int .i64 0, .int .i64 0] 24)).al (.cells #[.int .i64 0, .int .i64 0, .int .i64 1, .int .i64 2, .int .i64 3, .int .i64 4, .int .i64 5, .int .i64 6, .int .i64 7, .int .i64 8] 3); clear r1 g1)
      | (go_at_call 42; (with_reducible refine (pick_any g n c (p + 1) A 60 (w1) J1.rd (by omega) (by omega) (by omega)).mono ?_); rintro e w2 ⟨z2, rfl, z2a, z2b, r2, g2⟩; have J2 := J1.pick r2 g2; have hg2 := r2.lt; obtain ⟨T0, t0a, t0b, hq1, hq2⟩ := fifty z2a z2b; (try have rL := (g2.block _ (by have := (Array.getElem?_eq_some_iff.1 rL).1; first | assumption | (simp; omega)) (fun e => by injection e with e; omega)).trans rL); (try have rD := (g2.block _ (by have := (Array.getElem?_eq_some_iff.1 rD).1; first | assumption | (simp; omega)) (fun e => by injection e with e; omega)).trans rD); (try have cL := kinds_cell hK rL); (try have cLD := kinds_cell hK (row_al rL (.cells #[.int .i64 0, .int .i64 0, .int .i64 0] 24))); (try have dL0 := (cells3_at (row_al rD (.cells #[.int .i64 0, .int .i64 0, .int .i64 1, .int .i64 2, .int .i64 3, .int .i64 4, .int .i64 5, .int .i64 6, .int .i64 7, .int .i64 8] 3))).1); (try have dL1 := (cells3_at (row_al rD (.cells #[.int .i64 0, .int .i64 0, .int .i64 1, .int .i64 2, .int .i64 3, .int .i64 4, .int .i64 5, .int .i64 6, .int .i64 7, .int .i64 8] 3))).2.1); (try have dL2 := (cells3_at (row_al rD (.cells #[.int .i64 0, .int .i64 0, .int .i64 1, .int .i64 2, .int .i64 3, .int .i64 4, .int .i64 5, .int .i64 6, .int .i64 7, .int .i64 8] 3))).2.2); (try have eL0 := frozen_of_row (w2.alloc (.cells #[.int .i64 0, .int .i64 0, .int .i64 1, .int .i64 2, .int .i64 3, .int .i64 4, .int .i64 5, .int .i64 6, .int .i64 7, .int .i64 8] 3)) _ 0 _ _ (row_al rD (.cells #[.int .i64 0, .int .i64 0, .int .i64 1, .int .i64 2, .int .i64 3, .int .i64 4, .int .i64 5, .int .i64 6, .int .i64 7, .int .i64 8] 3))); (try have eL1 := frozen_of_row (w2.alloc (.cells #[.int .i64 0, .int .i64 0, .int .i64 1, .int .i64 2, .int .i64 3, .int .i64 4, .int .i64 5, .int .i64 6, .int .i64 7, .int .i64 8] 3)) _ 1 _ _ (row_al rD (.cells #[.int .i64 0, .int .i64 0, .int .i64 1, .int .i64 2, .int .i64 3, .int .i64 4, .int .i64 5, .int .i64 6, .int .i64 7, .int .i64 8] 3))); (try have eL2 := frozen_of_row (w2.alloc (.cells #[.int .i64 0, .int .i64 0, .int .i64 1, .int .i64 2, .int .i64 3, .int .i64 4, .int .i64 5, .int .i64 6, .int .i64 7, .int .i64 8] 3)) _ 2 _ _ (row_al rD (.cells #[.int .i64 0, .int .i64 0, .int .i64 1, .int .i64 2, .int .i64 3, .int .i64 4, .int .i64 5, .int .i64 6, .int .i64 7, .int .i64 8] 3))); (try have cD0 := (cells3_at rD).1); (try have cD1 := (cells3_at rD).2.1); (try have cD2 := (cells3_at rD).2.2); (try have fD0 := frozen_of_row w2 _ 0 _ _ rD); (try have fD1 := frozen_of_row w2 _ 1 _ _ rD); (try have fD2 := frozen_of_row w2 _ 2 _ _ rD); have mL := kinds_cell hK (heap_alloc_new w2 (.cells #[.int .i64 0, .int .i64 0, .int .i64 1, .int .i64 2, .int .i64 3, .int .i64 4, .int .i64 5, .int .i64 6, .int .i64 7, .int .i64 8] 3)); have mLD := kinds_cell hK (al_first w2 (.cells #[.int .i64 0, .int .i64 0, .int .i64 1, .int .i64 2, .int .i64 3, .int .i64 4, .int .i64 5, .int .i64 6, .int .i64 7, .int .i64 8] 3) (.cells #[.int .i64 0, .int .i64 0, .int .i64 0] 24)); have mDL := kinds_cell hK (al_second w2 (.cells #[.int .i64 0, .int .i64 0, .int .i64 0] 24) (.cells #[.int .i64 0, .int .i64 0, .int .i64 1, .int .i64 2, .int .i64 3, .int .i64 4, .int .i64 5, .int .i64 6, .int .i64 7, .int .i64 8] 3)); clear r2 g2)
      | (go_at_call 42; (with_reducible refine (pick_any g n c (p + 1) A 60 ((w1.alloc (.cells #[.int .i64 0, .int .i64 0, .int .i64 1, .int .i64 2, .int .i64 3, .int .i64 4, .int .i64 5, .int .i64 6, .int .i64 7, .int .i64 8] 3))) J1L.rd (by omega) (by omega) (by omega)).mono ?_); rintro e w2 ⟨z2, rfl, z2a, z2b, r2, g2⟩; have J2 := J1L.pick r2 g2; have hg2 := r2.lt; obtain ⟨T0, t0a, t0b, hq1, hq2⟩ := fifty z2a z2b; have rL := (g2.block (w1.heap.size) (by first | (simp; done) | (simp; omega)) (fun e => by injection e with e; omega)).trans (show ((w1.alloc (.cells #[.int .i64 0, .int .i64 0, .int .i64 1, .int .i64 2, .int .i64 3, .int .i64 4, .int .i64 5, .int .i64 6, .int .i64 7, .int .i64 8] 3))).heap[w1.heap.size]? = some _ from heap_alloc_new _ _); (try have rD := (g2.block _ (by have := (Array.getElem?_eq_some_iff.1 rD).1; first | assumption | (simp; omega)) (fun e => by injection e with e; omega)).trans (row_al rD (.cells #[.int .i64 0, .int .i64 0, .int .i64 1, .int .i64 2, .int .i64 3, .int .i64 4, .int .i64 5, .int .i64 6, .int .i64 7, .int .i64 8] 3))); (try have cL := kinds_cell hK rL); (try have cLD := kinds_cell hK (row_al rL (.cells #[.int .i64 0, .int .i64 0, .int .i64 0] 24))); (try have dL0 := (cells3_at (row_al rD (.cells #[.int .i64 0, .int .i64 0, .int .i64 1, .int .i64 2, .int .i64 3, .int .i64 4, .int .i64 5, .int .i64 6, .int .i64 7, .int .i64 8] 3))).1); (try have dL1 := (cells3_at (row_al rD (.cells #[.int .i64 0, .int .i64 0, .int .i64 1, .int .i64 2, .int .i64 3, .int .i64 4, .int .i64 5, .int .i64 6, .int .i64 7, .int .i64 8] 3))).2.1); (try have dL2 := (cells3_at (row_al rD (.cells #[.int .i64 0, .int .i64 0, .int .i64 1, .int .i64 2, .int .i64 3, .int .i64 4, .int .i64 5, .int .i64 6, .int .i64 7, .int .i64 8] 3))).2.2); (try have eL0 := frozen_of_row (w2.alloc (.cells #[.int .i64 0, .int .i64 0, .int .i64 1, .int .i64 2, .int .i64 3, .int .i64 4, .int .i64 5, .int .i64 6, .int .i64 7, .int .i64 8] 3)) _ 0 _ _ (row_al rD (.cells #[.int .i64 0, .int .i64 0, .int .i64 1, .int .i64 2, .int .i64 3, .int .i64 4, .int .i64 5, .int .i64 6, .int .i64 7, .int .i64 8] 3))); (try have eL1 := frozen_of_row (w2.alloc (.cells #[.int .i64 0, .int .i64 0, .int .i64 1, .int .i64 2, .int .i64 3, .int .i64 4, .int .i64 5, .int .i64 6, .int .i64 7, .int .i64 8] 3)) _ 1 _ _ (row_al rD (.cells #[.int .i64 0, .int .i64 0, .int .i64 1, .int .i64 2, .int .i64 3, .int .i64 4, .int .i64 5, .int .i64 6, .int .i64 7, .int .i64 8] 3))); (try have eL2 := frozen_of_row (w2.alloc (.cells #[.int .i64 0, .int .i64 0, .int .i64 1, .int .i64 2, .int .i64 3, .int .i64 4, .int .i64 5, .int .i64 6, .int .i64 7, .int .i64 8] 3)) _ 2 _ _ (row_al rD (.cells #[.int .i64 0, .int .i64 0, .int .i64 1, .int .i64 2, .int .i64 3, .int .i64 4, .int .i64 5, .int .i64 6, .int .i64 7, .int .i64 8] 3))); (try have cD0 := (cells3_at rD).1); (try have cD1 := (cells3_at rD).2.1); (try have cD2 := (cells3_at rD).2.2); (try have fD0 := frozen_of_row w2 _ 0 _ _ rD); (try have fD1 := frozen_of_row w2 _ 1 _ _ rD); (try have fD2 := frozen_of_row w2 _ 2 _ _ rD); have mL := kinds_cell hK (heap_alloc_new w2 (.cells #[.int .i64 0, .int .i64 0, .int .i64 1, .int .i64 2, .int .i64 3, .int .i64 4, .int .i64 5, .int .i64 6, .int .i64 7, .int .i64 8] 3)); have mLD := kinds_cell hK (al_first w2 (.cells #[.int .i64 0, .int .i64 0, .int .i64 1, .int .i64 2, .int .i64 3, .int .i64 4, .int .i64 5, .int .i64 6, .int .i64 7, .int .i64 8] 3) (.cells #[.int .i64 0, .int .i64 0, .int .i64 0] 24)); have mDL := kinds_cell hK (al_second w2 (.cells #[.int .i64 0, .int .i64 0, .int .i64 0] 24) (.cells #[.int .i64 0, .int .i64 0, .int .i64 1, .int .i64 2, .int .i64 3, .int .i64 4, .int .i64 5, .int .i64 6, .int .i64 7, .int .i64 8] 3)); clear r2 g2)
      | (go_at_call 42; (with_reducible refine (pick_any g n c (p + 1) A 60 ((w1.alloc (.cells #[.int .i64 0, .int .i64 0, .int .i64 0] 24))) J1D.rd (by omega) (by omega) (by omega)).mono ?_); rintro e w2 ⟨z2, rfl, z2a, z2b, r2, g2⟩; have J2 := J1D.pick r2 g2; have hg2 := r2.lt; obtain ⟨T0, t0a, t0b, hq1, hq2⟩ := fifty z2a z2b; have rD := (g2.block (w1.heap.size) (by first | (simp; done) | (simp; omega)) (fun e => by injection e with e; omega)).trans (show ((w1.alloc (.cells #[.int .i64 0, .int .i64 0, .int .i64 0] 24))).heap[w1.heap.size]? = some _ from heap_alloc_new _ _); (try have rL := (g2.block _ (by have := (Array.getElem?_eq_some_iff.1 rL).1; first | assumption | (simp; omega)) (fun e => by injection e with e; omega)).trans (row_al rL (.cells #[.int .i64 0, .int .i64 0, .int .i64 0] 24))); (try have cL := kinds_cell hK rL); (try have cLD := kinds_cell hK (row_al rL (.cells #[.int .i64 0, .int .i64 0, .int .i64 0] 24))); (try have dL0 := (cells3_at (row_al rD (.cells #[.int .i64 0, .int .i64 0, .int .i64 1, .int .i64 2, .int .i64 3, .int .i64 4, .int .i64 5, .int .i64 6, .int .i64 7, .int .i64 8] 3))).1); (try have dL1 := (cells3_at (row_al rD (.cells #[.int .i64 0, .int .i64 0, .int .i64 1, .int .i64 2, .int .i64 3, .int .i64 4, .int .i64 5, .int .i64 6, .int .i64 7, .int .i64 8] 3))).2.1); (try have dL2 := (cells3_at (row_al rD (.cells #[.int .i64 0, .int .i64 0, .int .i64 1, .int .i64 2, .int .i64 3, .int .i64 4, .int .i64 5, .int .i64 6, .int .i64 7, .int .i64 8] 3))).2.2); (try have eL0 := frozen_of_row (w2.alloc (.cells #[.int .i64 0, .int .i64 0, .int .i64 1, .int .i64 2, .int .i64 3, .int .i64 4, .int .i64 5, .int .i64 6, .int .i64 7, .int .i64 8] 3)) _ 0 _ _ (row_al rD (.cells #[.int .i64 0, .int .i64 0, .int .i64 1, .int .i64 2, .int .i64 3, .int .i64 4, .int .i64 5, .int .i64 6, .int .i64 7, .int .i64 8] 3))); (try have eL1 := frozen_of_row (w2.alloc (.cells #[.int .i64 0, .int .i64 0, .int .i64 1, .int .i64 2, .int .i64 3, .int .i64 4, .int .i64 5, .int .i64 6, .int .i64 7, .int .i64 8] 3)) _ 1 _ _ (row_al rD (.cells #[.int .i64 0, .int .i64 0, .int .i64 1, .int .i64 2, .int .i64 3, .int .i64 4, .int .i64 5, .int .i64 6, .int .i64 7, .int .i64 8] 3))); (try have eL2 := frozen_of_row (w2.alloc (.cells #[.int .i64 0, .int .i64 0, .int .i64 1, .int .i64 2, .int .i64 3, .int .i64 4, .int .i64 5, .int .i64 6, .int .i64 7, .int .i64 8] 3)) _ 2 _ _ (row_al rD (.cells #[.int .i64 0, .int .i64 0, .int .i64 1, .int .i64 2, .int .i64 3, .int .i64 4, .int .i64 5, .int .i64 6, .int .i64 7, .int .i64 8] 3))); (try have cD0 := (cells3_at rD).1); (try have cD1 := (cells3_at rD).2.1); (try have cD2 := (cells3_at rD).2.2); (try have fD0 := frozen_of_row w2 _ 0 _ _ rD); (try have fD1 := frozen_of_row w2 _ 1 _ _ rD); (try have fD2 := frozen_of_row w2 _ 2 _ _ rD); have mL := kinds_cell hK (heap_alloc_new w2 (.cells #[.int .i64 0, .int .i64 0, .int .i64 1, .int .i64 2, .int .i64 3, .int .i64 4, .int .i64 5, .int .i64 6, .int .i64 7, .int .i64 8] 3)); have mLD := kinds_cell hK (al_first w2 (.cells #[.int .i64 0, .int .i64 0, .int .i64 1, .int .i64 2, .int .i64 3, .int .i64 4, .int .i64 5, .int .i64 6, .int .i64 7, .int .i64 8] 3) (.cells #[.int .i64 0, .int .i64 0, .int .i64 0] 24)); have mDL := kinds_cell hK (al_second w2 (.cells #[.int .i64 0, .int .i64 0, .int .i64 0] 24) (.cells #[.int .i64 0, .int .i64 0, .int .i64 1, .int .i64 2, .int .i64 3, .int .i64 4, .int .i64 5, .int .i64 6, .int .i64 7, .int .i64 8] 3)); clear r2 g2)
      | (go_at_call 42; (with_reducible refine (pick_any g n c (p + 1) A 60 (((w1.alloc (.cells #[.int .i64 0, .int .i64 0, .int .i64 1, .int .i64 2, .int .i64 3, .int .i64 4, .int .i64 5, .int .i64 6, .int .i64 7, .int .i64 8] 3)).alloc (.cells #[.int .i64 0, .int .i64 0, .int .i64 0] 24))) J1LD.rd (by omega) (by omega) (by omega)).mono ?_); rintro e w2 ⟨z2, rfl, z2a, z2b, r2, g2⟩; have J2 := J1LD.pick r2 g2; have hg2 := r2.lt; obtain ⟨T0, t0a, t0b, hq1, hq2⟩ := fifty z2a z2b; have rL := (g2.block (w1.heap.size) (by first | (simp; done) | (simp; omega)) (fun e => by injection e with e; omega)).trans (show (((w1.alloc (.cells #[.int .i64 0, .int .i64 0, .int .i64 1, .int .i64 2, .int .i64 3, .int .i64 4, .int .i64 5, .int .i64 6, .int .i64 7, .int .i64 8] 3)).alloc (.cells #[.int .i64 0, .int .i64 0, .int .i64 0] 24))).heap[w1.heap.size]? = some _ from al_first _ _ _); have rD := (g2.block (w1.heap.size + 1) (by first | (simp; done) | (simp; omega)) (fun e => by injection e with e; omega)).trans (show (((w1.alloc (.cells #[.int .i64 0, .int .i64 0, .int .i64 1, .int .i64 2, .int .i64 3, .int .i64 4, .int .i64 5, .int .i64 6, .int .i64 7, .int .i64 8] 3)).alloc (.cells #[.int .i64 0, .int .i64 0, .int .i64 0] 24))).heap[w1.heap.size + 1]? = some _ from al_second _ _ _); (try have cL := kinds_cell hK rL); (try have cLD := kinds_cell hK (row_al rL (.cells #[.int .i64 0, .int .i64 0, .int .i64 0] 24))); (try have dL0 := (cells3_at (row_al rD (.cells #[.int .i64 0, .int .i64 0, .int .i64 1, .int .i64 2, .int .i64 3, .int .i64 4, .int .i64 5, .int .i64 6, .int .i64 7, .int .i64 8] 3))).1); (try have dL1 := (cells3_at (row_al rD (.cells #[.int .i64 0, .int .i64 0, .int .i64 1, .int .i64 2, .int .i64 3, .int .i64 4, .int .i64 5, .int .i64 6, .int .i64 7, .int .i64 8] 3))).2.1); (try have dL2 := (cells3_at (row_al rD (.cells #[.int .i64 0, .int .i64 0, .int .i64 1, .int .i64 2, .int .i64 3, .int .i64 4, .int .i64 5, .int .i64 6, .int .i64 7, .int .i64 8] 3))).2.2); (try have eL0 := frozen_of_row (w2.alloc (.cells #[.int .i64 0, .int .i64 0, .int .i64 1, .int .i64 2, .int .i64 3, .int .i64 4, .int .i64 5, .int .i64 6, .int .i64 7, .int .i64 8] 3)) _ 0 _ _ (row_al rD (.cells #[.int .i64 0, .int .i64 0, .int .i64 1, .int .i64 2, .int .i64 3, .int .i64 4, .int .i64 5, .int .i64 6, .int .i64 7, .int .i64 8] 3))); (try have eL1 := frozen_of_row (w2.alloc (.cells #[.int .i64 0, .int .i64 0, .int .i64 1, .int .i64 2, .int .i64 3, .int .i64 4, .int .i64 5, .int .i64 6, .int .i64 7, .int .i64 8] 3)) _ 1 _ _ (row_al rD (.cells #[.int .i64 0, .int .i64 0, .int .i64 1, .int .i64 2, .int .i64 3, .int .i64 4, .int .i64 5, .int .i64 6, .int .i64 7, .int .i64 8] 3))); (try have eL2 := frozen_of_row (w2.alloc (.cells #[.int .i64 0, .int .i64 0, .int .i64 1, .int .i64 2, .int .i64 3, .int .i64 4, .int .i64 5, .int .i64 6, .int .i64 7, .int .i64 8] 3)) _ 2 _ _ (row_al rD (.cells #[.int .i64 0, .int .i64 0, .int .i64 1, .int .i64 2, .int .i64 3, .int .i64 4, .int .i64 5, .int .i64 6, .int .i64 7, .int .i64 8] 3))); (try have cD0 := (cells3_at rD).1); (try have cD1 := (cells3_at rD).2.1); (try have cD2 := (cells3_at rD).2.2); (try have fD0 := frozen_of_row w2 _ 0 _ _ rD); (try have fD1 := frozen_of_row w2 _ 1 _ _ rD); (try have fD2 := frozen_of_row w2 _ 2 _ _ rD); have mL := kinds_cell hK (heap_alloc_new w2 (.cells #[.int .i64 0, .int .i64 0, .int .i64 1, .int .i64 2, .int .i64 3, .int .i64 4, .int .i64 5, .int .i64 6, .int .i64 7, .int .i64 8] 3)); have mLD := kinds_cell hK (al_first w2 (.cells #[.int .i64 0, .int .i64 0, .int .i64 1, .int .i64 2, .int .i64 3, .int .i64 4, .int .i64 5, .int .i64 6, .int .i64 7, .int .i64 8] 3) (.cells #[.int .i64 0, .int .i64 0, .int .i64 0] 24)); have mDL := kinds_cell hK (al_second w2 (.cells #[.int .i64 0, .int .i64 0, .int .i64 0] 24) (.cells #[.int .i64 0, .int .i64 0, .int .i64 1, .int .i64 2, .int .i64 3, .int .i64 4, .int .i64 5, .int .i64 6, .int .i64 7, .int .i64 8] 3)); clear r2 g2)
      | (go_at_call 42; (with_reducible refine (pick_any g n c (p + 1) A 60 (((w1.alloc (.cells #[.int .i64 0, .int .i64 0, .int .i64 0] 24)).alloc (.cells #[.int .i64 0, .int .i64 0, .int .i64 1, .int .i64 2, .int .i64 3, .int .i64 4, .int .i64 5, .int .i64 6, .int .i64 7, .int .i64 8] 3))) J1DL.rd (by omega) (by omega) (by omega)).mono ?_); rintro e w2 ⟨z2, rfl, z2a, z2b, r2, g2⟩; have J2 := J1DL.pick r2 g2; have hg2 := r2.lt; obtain ⟨T0, t0a, t0b, hq1, hq2⟩ := fifty z2a z2b; have rD := (g2.block (w1.heap.size) (by first | (simp; done) | (simp; omega)) (fun e => by injection e with e; omega)).trans (show (((w1.alloc (.cells #[.int .i64 0, .int .i64 0, .int .i64 0] 24)).alloc (.cells #[.int .i64 0, .int .i64 0, .int .i64 1, .int .i64 2, .int .i64 3, .int .i64 4, .int .i64 5, .int .i64 6, .int .i64 7, .int .i64 8] 3))).heap[w1.heap.size]? = some _ from al_first _ _ _); have rL := (g2.block (w1.heap.size + 1) (by first | (simp; done) | (simp; omega)) (fun e => by injection e with e; omega)).trans (show (((w1.alloc (.cells #[.int .i64 0, .int .i64 0, .int .i64 0] 24)).alloc (.cells #[.int .i64 0, .int .i64 0, .int .i64 1, .int .i64 2, .int .i64 3, .int .i64 4, .int .i64 5, .int .i64 6, .int .i64 7, .int .i64 8] 3))).heap[w1.heap.size + 1]? = some _ from al_second _ _ _); (try have cL := kinds_cell hK rL); (try have cLD := kinds_cell hK (row_al rL (.cells #[.int .i64 0, .int .i64 0, .int .i64 0] 24))); (try have dL0 := (cells3_at (row_al rD (.cells #[.int .i64 0, .int .i64 0, .int .i64 1, .int .i64 2, .int .i64 3, .int .i64 4, .int .i64 5, .int .i64 6, .int .i64 7, .int .i64 8] 3))).1); (try have dL1 := (cells3_at (row_al rD (.cells #[.int .i64 0, .int .i64 0, .int .i64 1, .int .i64 2, .int .i64 3, .int .i64 4, .int .i64 5, .int .i64 6, .int .i64 7, .int .i64 8] 3))).2.1); (try have dL2 := (cells3_at (row_al rD (.cells #[.int .i64 0, .int .i64 0, .int .i64 1, .int .i64 2, .int .i64 3, .int .i64 4, .int .i64 5, .int .i64 6, .int .i64 7, .int .i64 8] 3))).2.2); (try have eL0 := frozen_of_row (w2.alloc (.cells #[.int .i64 0, .int .i64 0, .int .i64 1, .int .i64 2, .int .i64 3, .int .i64 4, .int .i64 5, .int .i64 6, .int .i64 7, .int .i64 8] 3)) _ 0 _ _ (row_al rD (.cells #[.int .i64 0, .int .i64 0, .int .i64 1, .int .i64 2, .int .i64 3, .int .i64 4, .int .i64 5, .int .i64 6, .int .i64 7, .int .i64 8] 3))); (try have eL1 := frozen_of_row (w2.alloc (.cells #[.int .i64 0, .int .i64 0, .int .i64 1, .int .i64 2, .int .i64 3, .int .i64 4, .int .i64 5, .int .i64 6, .int .i64 7, .int .i64 8] 3)) _ 1 _ _ (row_al rD (.cells #[.int .i64 0, .int .i64 0, .int .i64 1, .int .i64 2, .int .i64 3, .int .i64 4, .int .i64 5, .int .i64 6, .int .i64 7, .int .i64 8] 3))); (try have eL2 := frozen_of_row (w2.alloc (.cells #[.int .i64 0, .int .i64 0, .int .i64 1, .int .i64 2, .int .i64 3, .int .i64 4, .int .i64 5, .int .i64 6, .int .i64 7, .int .i64 8] 3)) _ 2 _ _ (row_al rD (.cells #[.int .i64 0, .int .i64 0, .int .i64 1, .int .i64 2, .int .i64 3, .int .i64 4, .int .i64 5, .int .i64 6, .int .i64 7, .int .i64 8] 3))); (try have cD0 := (cells3_at rD).1); (try have cD1 := (cells3_at rD).2.1); (try have cD2 := (cells3_at rD).2.2); (try have fD0 := frozen_of_row w2 _ 0 _ _ rD); (try have fD1 := frozen_of_row w2 _ 1 _ _ rD); (try have fD2 := frozen_of_row w2 _ 2 _ _ rD); have mL := kinds_cell hK (heap_alloc_new w2 (.cells #[.int .i64 0, .int .i64 0, .int .i64 1, .int .i64 2, .int .i64 3, .int .i64 4, .int .i64 5, .int .i64 6, .int .i64 7, .int .i64 8] 3)); have mLD := kinds_cell hK (al_first w2 (.cells #[.int .i64 0, .int .i64 0, .int .i64 1, .int .i64 2, .int .i64 3, .int .i64 4, .int .i64 5, .int .i64 6, .int .i64 7, .int .i64 8] 3) (.cells #[.int .i64 0, .int .i64 0, .int .i64 0] 24)); have mDL := kinds_cell hK (al_second w2 (.cells #[.int .i64 0, .int .i64 0, .int .i64 0] 24) (.cells #[.int .i64 0, .int .i64 0, .int .i64 1, .int .i64 2, .int .i64 3, .int .i64 4, .int .i64 5, .int .i64 6, .int .i64 7, .int .i64 8] 3)); clear r2 g2))
    all_goals
      have q1 := J1.lt.2
      have q2 := J2.lt.2
      go_wp2_with fail
      go_meet
      case rel =>
        with_reducible first
          | exact ⟨_, _, rfl, heap_alloc_new _ _, J2.al _, (by first | omega | (simp; omega))⟩
          | exact ⟨_, _, rfl, al_first _ _ _, (J2.al _).al _, (by first | omega | (simp; omega))⟩
          | exact ⟨_, _, rfl, al_second _ _ _, (J2.al _).al _, (by first | omega | (simp; omega))⟩
          | exact ⟨_, _, rfl, set3_row rD, J2.set3 (by omega) _ _ _, (by first | omega | (simp; omega))⟩
          | exact ⟨_, _, rfl, set3_row (row_al rD _), (J2.al _).set3 (by omega) _ _ _, (by first | omega | (simp; omega))⟩
  case rest =>
    obtain ⟨B, K, rfl, rB, J, hB⟩ := hcut
    clear J00 J0 J0L J0D J0LD J0DL hgW hwW
    have hBl : B < wc.heap.size := (Array.getElem?_eq_some_iff.1 rB).1
    have b0 := (cells3_at rB).1
    have gB : g ≠ B := by omega
    have gB2 : B ≠ g := by omega
    go_upto_block 0 with fail
    go_cut [6] from 20 (fun _ wx => ∃ (x y : Int) (q : Nat), wx.heap[B]? = some (.cells #[.int .i64 K, .int .i64 x, .int .i64 y] 24 (0, 0)) ∧ DSt w wx g n c A q ∧ q ≤ p + 4)
    case first =>
      by_cases e0 : K = 0
      · have k0 : (K == 0) = true := beq_iff_eq.2 e0
        clear e0
        go_wp2_with fail
        refine (pick_any g n c (p + 1 + 1) A 6 _ J.rd (by omega) (by omega) (by omega)).mono ?_
        rintro e w5 ⟨z5, rfl, z5a, z5b, r5, g5⟩
        have J5 := J.pick r5 g5
        have rB5 := (g5.block B hBl (fun e => by injection e with e; omega)).trans rB
        have hB5 : B < w5.heap.size := (Array.getElem?_eq_some_iff.1 rB5).1
        obtain ⟨c0, c1, c2⟩ := cells3_at rB5
        have f1 := frozen_of_row w5 _ 1 _ _ rB5
        have J6 := J5.set hB 1 (.int .i64 (z5 - 2))
        have rB6 := (heap_setCell_same w5 B 1 _ _ (.int .i64 (z5 - 2)) rB5).trans (show _ = some (Obj.cells #[.int .i64 K, .int .i64 (z5 - 2), .int .i64 0] 24 (0, 0)) from rfl)
        clear r5 g5
        go_wp2_with fail
        refine (pick_any g n c (p + 1 + 1 + 1) A 6 _ J6.rd (by omega) (by omega) (by omega)).mono ?_
        rintro e w6 ⟨z6, rfl, z6a, z6b, r6, g6⟩
        have J7 := J6.pick r6 g6
        have rB7 := (g6.block B (by simp [World.setCell]; exact hB5) (fun e => by injection e with e; omega)).trans rB6
        obtain ⟨c0, c1, c2⟩ := cells3_at rB7
        have f2 := frozen_of_row w6 _ 2 _ _ rB7
        have J8 := J7.set hB 2 (.int .i64 (z6 - 2))
        have rB8 := (heap_setCell_same w6 B 2 _ _ (.int .i64 (z6 - 2)) rB7).trans (show _ = some (Obj.cells #[.int .i64 K, .int .i64 (z5 - 2), .int .i64 (z6 - 2)] 24 (0, 0)) from rfl)
        clear r6 g6 J5 J6 J7 rB5 rB6
        go_wp2
        go_meet
        case rel => exact ⟨_, _, _, rB8, J8, by omega⟩
      have k0 : (K == 0) = false := beq_eq_false_iff_ne.2 e0
      by_cases e2 : K = 2
      · have k2 : (K == 2) = true := beq_iff_eq.2 e2
        clear e0 e2
        go_wp2_with fail
        refine (pick_any g n c (p + 1 + 1) A 6 _ J.rd (by omega) (by omega) (by omega)).mono ?_
        rintro e w5 ⟨z5, rfl, z5a, z5b, r5, g5⟩
        have J5 := J.pick r5 g5
        have rB5 := (g5.block B hBl (fun e => by injection e with e; omega)).trans rB
        have hB5 : B < w5.heap.size := (Array.getElem?_eq_some_iff.1 rB5).1
        obtain ⟨c0, c1, c2⟩ := cells3_at rB5
        have f1 := frozen_of_row w5 _ 1 _ _ rB5
        have J6 := J5.set hB 1 (.int .i64 (z5 - 2))
        have rB6 := (heap_setCell_same w5 B 1 _ _ (.int .i64 (z5 - 2)) rB5).trans (show _ = some (Obj.cells #[.int .i64 K, .int .i64 (z5 - 2), .int .i64 0] 24 (0, 0)) from rfl)
        clear r5 g5
        go_wp2_with fail
        refine (pick_any g n c (p + 1 + 1 + 1) A 6 _ J6.rd (by omega) (by omega) (by omega)).mono ?_
        rintro e w6 ⟨z6, rfl, z6a, z6b, r6, g6⟩
        have J7 := J6.pick r6 g6
        have rB7 := (g6.block B (by simp [World.setCell]; exact hB5) (fun e => by injection e with e; omega)).trans rB6
        obtain ⟨c0, c1, c2⟩ := cells3_at rB7
        have f2 := frozen_of_row w6 _ 2 _ _ rB7
        have J8 := J7.set hB 2 (.int .i64 (z6 - 2))
        have rB8 := (heap_setCell_same w6 B 2 _ _ (.int .i64 (z6 - 2)) rB7).trans (show _ = some (Obj.cells #[.int .i64 K, .int .i64 (z5 - 2), .int .i64 (z6 - 2)] 24 (0, 0)) from rfl)
        clear r6 g6 J5 J6 J7 rB5 rB6
        go_wp2
        go_meet
        case rel => exact ⟨_, _, _, rB8, J8, by omega⟩
      have k2 : (K == 2) = false := beq_eq_false_iff_ne.2 e2
      by_cases e1 : K = 1
      · have k1 : (K == 1) = true := beq_iff_eq.2 e1
        clear e0 e2 e1
        by_cases h0 : 0 < ps.length
        · have hd0 : decide ((0 : Int) < (ps.length : Int)) = true := decide_eq_true (by omega)
          have hi0 : (0 : Int) < (ps.length : Int) := by omega
          go_wp2_with fail
          refine (pick_any g n c (p + 1 + 1) A (ps.length : Int) _ J.rd (by omega) (by omega) (by omega)).mono ?_
          rintro e w5 ⟨z5, rfl, z5a, z5b, r5, g5⟩
          have J5 := J.pick r5 g5
          have rB5 := (g5.block B hBl (fun e => by injection e with e; omega)).trans rB
          obtain ⟨c0, c1, c2⟩ := cells3_at rB5
          have f1 := frozen_of_row w5 _ 1 _ _ rB5
          obtain ⟨m, rfl⟩ := Int.eq_ofNat_of_zero_le z5a
          have hm : m < ps.length := by omega
          obtain ⟨⟨a1, a2⟩, ha⟩ : ∃ a, ps[m]? = some a := ⟨_, List.getElem?_eq_getElem hm⟩
          have J6 := J5.set hB 1 (.int .i64 a1)
          have rB6 := (heap_setCell_same w5 B 1 _ _ (.int .i64 a1) rB5).trans (show _ = some (Obj.cells #[.int .i64 K, .int .i64 a1, .int .i64 0] 24 (0, 0)) from rfl)
          have h5 := hs w5 J5.gr
          have h6 := hs _ J6.gr
          obtain ⟨A5, c5, e5, _, hc5, _, hr5⟩ := h5.is
          cases e5
          obtain ⟨bb, off, rfl, _, hcell⟩ := hr5 (by omega)
          obtain ⟨A6, c6, e6, _, _, _, hr6⟩ := h6.is
          cases e6
          obtain ⟨bb', off', e7, _, hcell6⟩ := hr6 (by omega)
          cases e7
          have d1 := (hcell m a1 a2 ha).1
          have d2 := (hcell6 m a1 a2 ha).2
          have hm3 : (0 : Int) ≤ (m : Int) := Int.natCast_nonneg _
          have hm4 : (m : Int) < (ps.length : Int) := by omega
          have f2 := frozen_of_row _ _ 2 _ _ rB6
          have d3 := (cells3_at rB6).2.2
          have J7 := J6.set hB 2 (.int .i64 a2)
          have rB7 := (heap_setCell_same _ B 2 _ _ (.int .i64 a2) rB6).trans (show _ = some (Obj.cells #[.int .i64 K, .int .i64 a1, .int .i64 a2] 24 (0, 0)) from rfl)
          clear J6 rB6 J5 rB5 h5 h6 hcell hcell6 ha r5 g5 hr5 hr6
          go_wp2
          go_meet
          case rel => exact ⟨a1, a2, _, rB7, J7, by omega⟩
        · have hd0 : decide ((0 : Int) < (ps.length : Int)) = false := decide_eq_false (by omega)
          have hi0 : ¬ (0 : Int) < (ps.length : Int) := by omega
          go_wp2
          go_meet
          case rel => exact ⟨0, 0, _, rB, J, by omega⟩
      have k1 : (K == 1) = false := beq_eq_false_iff_ne.2 e1
      by_cases e4 : K = 4
      · have k4 : (K == 4) = true := beq_iff_eq.2 e4
        clear e0 e2 e1 e4
        go_wp2_with fail
        refine (pick_any g n c (p + 1 + 1) A 2 _ J.rd (by omega) (by omega) (by omega)).mono ?_
        rintro e w5 ⟨z5, rfl, z5a, z5b, r5, g5⟩
        have J5 := J.pick r5 g5
        have rB5 := (g5.block B hBl (fun e => by injection e with e; omega)).trans rB
        obtain ⟨c0, c1, c2⟩ := cells3_at rB5
        have f1 := frozen_of_row w5 _ 1 _ _ rB5
        clear r5 g5
        go_wp2
        go_meet
        case rel => exact ⟨_, 0, _, (heap_setCell_same w5 B 1 _ _ _ rB5).trans rfl, J5.set hB 1 _, by omega⟩
      have k4 : (K == 4) = false := beq_eq_false_iff_ne.2 e4
      by_cases e5 : K = 5
      · have k5 : (K == 5) = true := beq_iff_eq.2 e5
        clear e0 e2 e1 e4 e5
        go_wp2_with fail
        refine (pick_any g n c (p + 1 + 1) A 2 _ J.rd (by omega) (by omega) (by omega)).mono ?_
        rintro e w5 ⟨z5, rfl, z5a, z5b, r5, g5⟩
        have J5 := J.pick r5 g5
        have rB5 := (g5.block B hBl (fun e => by injection e with e; omega)).trans rB
        obtain ⟨c0, c1, c2⟩ := cells3_at rB5
        have f1 := frozen_of_row w5 _ 1 _ _ rB5
        clear r5 g5
        go_wp2
        go_meet
        case rel => exact ⟨_, 0, _, (heap_setCell_same w5 B 1 _ _ _ rB5).trans rfl, J5.set hB 1 _, by omega⟩
      have k5 : (K == 5) = false := beq_eq_false_iff_ne.2 e5
      by_cases e6 : K = 6
      · have k6 : (K == 6) = true := beq_iff_eq.2 e6
        clear e0 e2 e1 e4 e5 e6
        go_wp2_with fail
        refine (pick_any g n c (p + 1 + 1) A 3 _ J.rd (by omega) (by omega) (by omega)).mono ?_
        rintro e w5 ⟨z5, rfl, z5a, z5b, r5, g5⟩
        have J5 := J.pick r5 g5
        have rB5 := (g5.block B hBl (fun e => by injection e with e; omega)).trans rB
        obtain ⟨c0, c1, c2⟩ := cells3_at rB5
        have f1 := frozen_of_row w5 _ 1 _ _ rB5
        clear r5 g5
        go_wp2
        go_meet
        case rel => exact ⟨_, 0, _, (heap_setCell_same w5 B 1 _ _ _ rB5).trans rfl, J5.set hB 1 _, by omega⟩
      have k6 : (K == 6) = false := beq_eq_false_iff_ne.2 e6
      clear e0 e2 e1 e4 e5 e6
      go_wp2
      go_meet
      case rel => exact ⟨0, 0, _, rB, J, by omega⟩
    case rest =>
      clear rB J b0 hBl
      obtain ⟨x, y, q, rB, J, hq⟩ := hcut
      have hBl := (Array.getElem?_eq_some_iff.1 rB).1
      go_wp2_with fail
      refine (odd_any g n c q A 40 _ J.rd (by omega) (by omega) (by omega)).mono ?_
      rintro e w8 ⟨zo, q8, rfl, hq8, r8, g8⟩
      have J8 := J.pick r8 g8
      have rB8 := (g8.block B hBl (fun e => by injection e with e; omega)).trans rB
      clear J rB r8 g8 hs
      cases zo with
      | false =>
        obtain ⟨c0, c1, c2⟩ := cells3_at rB8
        obtain ⟨d0, d1, d2⟩ := cells3_at J8.row
        have f0 := frozen_of_row w8 _ 0 _ _ J8.row
        have f1 := frozen_of_row w8 _ 1 _ _ J8.row
        have f2 := frozen_of_row w8 _ 2 _ _ J8.row
        have hgl := J8.lt.1
        have rF := ((J8.rd.setAt (j := 0) (v := .int .i64 K) hgl).setAt (j := 1) (v := .int .i64 x) hgl).setAt (j := 2) (v := .int .i64 y) hgl
        have gF := grown_app (grown_app (grown_app J8.gr (grown_set w8 w.heap.size 0 (.int .i64 K)) (fun k e => by injection e with e; omega)) (grown_set _ w.heap.size 1 (.int .i64 x)) (fun k e => by injection e with e; omega)) (grown_set _ w.heap.size 2 (.int .i64 y)) (fun k e => by injection e with e; omega)
        go_wp2
        exact bodyPost_ret (v := .agg #[.int .i64 K, .int .i64 x, .int .i64 y]) (by simp [results, Tryd.results31, go_sem, *]) rfl ⟨_, _, _, _, rfl, rF, by omega, gF⟩
      | true =>
        have hB8 : B < w8.heap.size := (Array.getElem?_eq_some_iff.1 rB8).1
        have hg8 := J8.rd.lt
        have Jl := J8.al (.cells #[.int .i64 (-100), .int .i64 100, .int .i64 7] 3)
        have rl := row_al rB8 (.cells #[.int .i64 (-100), .int .i64 100, .int .i64 7] 3)
        go_wp2_with fail
        refine (pick_any g n c q8 A 3 _ Jl.rd (by omega) (by omega) (by omega)).mono ?_
        rintro e w9 ⟨z9, rfl, z9a, z9b, r9, g9⟩
        have J9 := Jl.pick r9 g9
        have rB9 := (g9.block B (by rw [World.size_alloc]; omega) (fun e => by injection e with e; omega)).trans rl
        obtain ⟨m, rfl⟩ := Int.eq_ofNat_of_zero_le z9a
        obtain ⟨Y, hA1, hA2⟩ := hund_at (show m < 3 by omega)
        have hi0 : (0 : Int) ≤ (m : Int) := Int.natCast_nonneg _
        have hi1 : (m : Int) < 3 := z9b
        have rL := (g9.block w8.heap.size (by simp) (fun e => by injection e with e; omega)).trans (heap_alloc_new w8 (.cells #[.int .i64 (-100), .int .i64 100, .int .i64 7] 3))
        have cL := (cell_of_row w9 w8.heap.size m _ _ _ rL).trans hA1
        have dL2 := (cells3_at rB9).2.2
        have fL2 := frozen_of_row w9 _ 2 _ _ rB9
        have JX := J9.set hB 2 (.int .i64 Y)
        have rX := (heap_setCell_same w9 B 2 _ _ (.int .i64 Y) rB9).trans (show _ = some (Obj.cells #[.int .i64 K, .int .i64 x, .int .i64 Y] 24 (0, 0)) from rfl)
        clear r9 g9 rl Jl rL
        obtain ⟨WX, hWX⟩ : ∃ WX, WX = w9.setCell ⟨B, 2, none⟩ (.int .i64 Y) := ⟨_, rfl⟩
        rw [← hWX] at JX rX
        go_upto_region 19 with fail
        rw [← hWX]
        clear hWX
        obtain ⟨c0, c1, c2⟩ := cells3_at rX
        obtain ⟨d0, d1, d2⟩ := cells3_at JX.row
        have f0 := frozen_of_row WX _ 0 _ _ JX.row
        have f1 := frozen_of_row WX _ 1 _ _ JX.row
        have f2 := frozen_of_row WX _ 2 _ _ JX.row
        have hgl := JX.lt.1
        have rF := ((JX.rd.setAt (j := 0) (v := .int .i64 K) hgl).setAt (j := 1) (v := .int .i64 x) hgl).setAt (j := 2) (v := .int .i64 Y) hgl
        have gF := grown_app (grown_app (grown_app JX.gr (grown_set WX w.heap.size 0 (.int .i64 K)) (fun k e => by injection e with e; omega)) (grown_set _ w.heap.size 1 (.int .i64 x)) (fun k e => by injection e with e; omega)) (grown_set _ w.heap.size 2 (.int .i64 Y)) (fun k e => by injection e with e; omega)
        go_wp2
        exact bodyPost_ret (v := .agg #[.int .i64 K, .int .i64 x, .int .i64 Y]) (by simp [results, Tryd.results31, go_sem, *]) rfl ⟨_, _, _, _, rfl, rF, by omega, gF⟩
end Go.Proofs.YtpdnakiilhohdaaDoor
