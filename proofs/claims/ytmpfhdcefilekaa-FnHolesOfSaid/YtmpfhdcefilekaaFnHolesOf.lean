/-
  Proved: the law of HolesOf (FnHolesOf) returns true for every code, and the code reads afterwards as it read before. No conditions.
-/
import Derived.Test.YtmpfhdcefilekaaDraws7
import Derived.Test.YtmpfhdcefilekaaHoleS
import Derived.Test.YtmpfhdcefilekaaHoleI
import Derived.Test.YtmpfhdcefilekaaPieceI
import Derived.Test.YtmpfhdcefilekaaPartsL
import Derived.Test.YtmpfhdcefilekaaReach
import Derived.Test.YtmpfhdcefilekaaOpen
namespace Go.Proofs.Ytmpfhdcefilekaa.fnHolesOf
open Go.ChangeShapes Go.WideShapes Go.ChangeAt Go.RowKit

theorem impl_lit {ls : List (List Sp)} {ps : List Sp} {v : Value} {w : World} (hk : holesR ps = ls) (h : Reads w w.heap.size v ps) : Calls Try.prog 30 #[v] w (GivesParts ls w) := by
  subst hk; exact implHoles_any ps v w h
theorem spec_lit {ls : List (List Sp)} {ps : List Sp} {v : Value} {w : World} (hk : holesR ps = ls) (h : Reads w w.heap.size v ps) : Calls Try.prog 31 #[v] w (GivesParts ls w) := by
  subst hk; exact specHoles_any ps v w h
theorem pieces_lit {ls : List (List Sp)} {e : Bool} {ps : List Sp} {v : Value} {w : World} (hk : piecesR e ps = ls) (h : Reads w w.heap.size v ps) : Calls Try.prog 20 #[v, .bool e] w (GivesParts ls w) := by
  subst hk; exact implPieces_any e ps v w h
theorem common_lit {r p q : List Sp} {v u : Value} {w : World} (hk : commonL p q = r) (h : Reads w w.heap.size v p) (h' : Reads w w.heap.size u q) : Calls Try.prog 23 #[v, u] w (Gives1 r w) := by
  subst hk; exact implCommon_any p q v u w h h'
/-- what is asked of a hole, where the picture is at hand -/
theorem holes7 {p : List Sp} {ls : List (List Sp)} (h : holesR p = ls) : ∀ q ∈ ls, q.length ≤ 60 → Hole7 p q := by
  intro q hq hl
  rcases hp : picB p with _ | _
  · unfold holesR at h
    rw [hp] at h
    subst h
    cases hq
  · unfold holesR at h
    rw [hp, if_pos rfl] at h
    subst h
    exact hole7 hp hq hl
theorem ring_r0 (x y : Int) : (x, y + 1) ∈ ring4 (x, y) := by simp [ring4]
theorem ring_r1 (x y : Int) : (x + 1, y) ∈ ring4 (x, y) := by simp [ring4]
theorem ring_r2 (x y : Int) : (x, y + -1) ∈ ring4 (x, y) := by
  have e : y + -1 = y - 1 := by omega
  rw [e]; simp [ring4]
theorem ring_r3 (x y : Int) : (x + -1, y) ∈ ring4 (x, y) := by
  have e : x + -1 = x - 1 := by omega
  rw [e]; simp [ring4]
set_option maxRecDepth 100000 in
set_option maxHeartbeats 3200000 in
theorem walk (A : Option Addr) (n c : Nat) (w : World) (hb : Bytes w w.heap.size A n) (hn : n ≤ c) (hc : c ≤ 9223372036854775807) :
    Calls Try.prog 6 #[.slice A n c] w (Gives (.bool true) w) := by
  by_cases hbig : 1048576 < n
  · go_enter Try.func6, Try.ntmps6
    go_wp2
    go_ret
    exact ⟨rfl, Below.refl _ _⟩
  · go_enter Try.func6, Try.ntmps6
    go_wp2_with fail
    refine (drawHolesOf_any A n c _ hb hn hc).mono ?_
    rintro e w1 ⟨v, ps, rfl, op, hpl, bb⟩
    obtain ⟨Ap, cp, rfl, _, _⟩ := op.reads.slice
    clear hb hn hc
    obtain ⟨ls, hls⟩ : ∃ ls, holesR ps = ls := ⟨_, rfl⟩
    have HL := Lib.hid hls
    have HQ := Lib.hid (holes7 hls)
    clear hls
    go_wp2_with fail
    refine (impl_lit HL.out op.reads).mono ?_
    rintro e w2 ⟨vl, rfl, ol, bn⟩
    have bb := below_step bb bn
    have op := op.below bn
    go_wp2_with fail
    refine (spec_lit HL.out op.reads).mono ?_
    rintro e w3 ⟨vx, rfl, ox, bn⟩
    have bb := below_step bb bn
    have op := op.below bn
    have ol := ol.below bn
    go_wp2_with fail
    refine (gives_is (show decide (ls = ls) = true by simp) (sameParts_any _ _ _ _ _ ol.reads ox.reads)).mono ?_
    rintro e w4 ⟨rfl, bn⟩
    have bb := below_step bb bn
    have rp := (op.below bn).reads
    have rl := (ol.below bn).reads
    clear ox bn op ol
    obtain ⟨Al, cl, vs, rfl, hcl, hml, hvl, hcell, hin⟩ := rl.is
    unfold maxLen at hml
    have hll : ls.length ≤ 9223372036854775807 := by omega
    clear hvl
    go_wp2
    go_loopw [5] (fun i wr => ∃ k : Nat, k ≤ ls.length ∧ i = .int .i64 k ∧ Below w4.heap.size w4 wr) (fun i _ => ls.length - (intOf i).toNat)
    case atStart => exact ⟨0, Nat.zero_le _, rfl, Below.refl _ _⟩
    case round =>
      obtain ⟨k, hk, rfl, hbw⟩ := hrel
      by_cases hlk : k < ls.length
      · obtain ⟨bl, rfl, hbl, hcv⟩ := hcell (by omega)
        obtain ⟨q, hq⟩ : ∃ q, ls[k]? = some q := ⟨_, List.getElem?_eq_getElem hlk⟩
        obtain ⟨u, hu, hru⟩ := hin k q hq
        obtain ⟨Au, cu, rfl, hcu, hmu, hAu, hrq⟩ := hru.is
        unfold maxLen at hmu
        have c0 := hcv k _ hu
        have d0 := (hbw.cell (p := ⟨bl, k, none⟩) hbl).trans c0
        have hm3 : (0 : Int) ≤ (k : Int) := Int.natCast_nonneg _
        have hm4 : (k : Int) < (ls.length : Int) := by omega
        have H7 := Lib.hid (HQ.out q (List.mem_of_getElem? hq))
        clear hq hu hcv hin hcell
        by_cases hbg : 60 < q.length
        · have hg : decide ((60 : Int) < (q.length : Int)) = true := decide_eq_true (by omega)
          go_wp2
          go_roundw
          case rel => exact ⟨k + 1, by omega, by go_num, hbw⟩
          case measure => simp [intOf]; omega
        · have hg : decide ((60 : Int) < (q.length : Int)) = false := decide_eq_false (by omega)
          have hql : q.length ≤ 60 := by omega
          have HP7 := Lib.hid (H7.out hql)
          have HB := Lib.hid (fun (a b : Sp) (ha : a ∈ q) (hb : b ∈ ring4 a) => HP7.out.beside a ha b hb)
          have HI := Lib.hid (picB_pic HP7.out.pic).2.1
          obtain ⟨l2, hl2⟩ : ∃ l, piecesR false q = l := ⟨_, rfl⟩
          have hone : l2.length = 1 := by rw [← hl2]; exact HP7.out.one
          have hone2 : (((l2.length : Int) != 1)) = false := by rw [hone]; rfl
          have HL2 := Lib.hid hl2
          have HC := Lib.hid HP7.out.apart
          clear hl2 hone hbg H7
          go_wp2_with fail
          refine (pieces_lit HL2.out (hru.kept hbw)).mono ?_
          rintro e w5 ⟨v5, rfl, o5, b5⟩
          have hb5 := below_step hbw b5
          obtain ⟨A5, c5, rfl, _, _⟩ := o5.reads.slice
          have d1 := (hb5.cell (p := ⟨bl, k, none⟩) hbl).trans c0
          clear b5 o5 d0
          go_wp2_with fail
          refine (common_lit HC.out (hru.kept hb5) (rp.kept hb5)).mono ?_
          rintro e w6 ⟨v6, rfl, o6, b6⟩
          have hb6 := below_step hb5 b6
          obtain ⟨A6, c6, rfl, _, _⟩ := o6.reads.slice
          have hnil : ([] : List Sp).length = 0 := rfl
          have d2 := (hb6.cell (p := ⟨bl, k, none⟩) hbl).trans c0
          clear b6 o6 d1 hb5
          go_wp2
          go_loopw [6] (fun i wj => ∃ j : Nat, j ≤ q.length ∧ i = .int .i64 j ∧ Below w6.heap.size w6 wj) (fun i _ => q.length - (intOf i).toNat)
          case atStart => exact ⟨0, Nat.zero_le _, rfl, Below.refl _ _⟩
          case round =>
            obtain ⟨j, hj, rfl, hbj⟩ := hrel
            have hbq := below_step hb6 hbj
            have d3 := (hbq.cell (p := ⟨bl, k, none⟩) hbl).trans c0
            by_cases hlj : j < q.length
            · obtain ⟨⟨x, y⟩, hxy⟩ : ∃ a, q[j]? = some a := ⟨_, List.getElem?_eq_getElem hlj⟩
              obtain ⟨bq, off, rfl, hbk, hqc⟩ := hrq (by omega)
              obtain ⟨e0, e1⟩ := hqc j x y hxy
              have f0 := (hbq.cell (p := ⟨bq, off + j * 2, none⟩) hbk).trans e0
              have f1 := (hbq.cell (p := ⟨bq, off + j * 2 + 1, none⟩) hbk).trans e1
              have HM := Lib.hid (List.mem_of_getElem? hxy)
              have hxr := HI.out _ HM.out
              obtain ⟨hx1, hx2, hy1, hy2⟩ : -30 ≤ x ∧ x ≤ 30 ∧ -30 ≤ y ∧ y ≤ 30 := hxr
              have hm5 : (0 : Int) ≤ (j : Int) := Int.natCast_nonneg _
              have hm6 : (j : Int) < (q.length : Int) := by omega
              clear hxy e0 e1 hqc
              go_wp2
              obtain ⟨W, hW⟩ : ∃ W, W = wr.alloc (.cells #[.int .i64 x, .int .i64 y] 42) := ⟨_, rfl⟩
              have b7 : Below wr.heap.size wr W := by rw [hW]; exact box_below _ _ _
              have a0 : W.cell? ⟨wr.heap.size, 0, none⟩ = some (.int .i64 x) := by rw [hW]; simp [go_sem]
              have a1 : W.cell? ⟨wr.heap.size, 1, none⟩ = some (.int .i64 y) := by rw [hW]; simp [go_sem]
              have hgW : wr.heap.size < W.heap.size := by rw [hW]; simp
              have hbqs := hbq.size
              have hblW : bl < W.heap.size := by omega
              have dW := (b7.cell (p := ⟨bl, k, none⟩) (by simp only; omega)).trans d3
              rw [← hW]
              have rqW := (hru.kept hbq).kept b7
              have rpW := (rp.kept hbq).kept b7
              have hbW := below_step hbj b7
              clear hW b7 d3 f0 f1
              go_loopw [8] (fun i wz => (i = .int .i64 0 ∨ i = .int .i64 1 ∨ i = .int .i64 2 ∨ i = .int .i64 3 ∨ i = .int .i64 4) ∧ Below W.heap.size W wz) (fun i _ => 4 - (intOf i).toNat)
              case atStart => exact ⟨.inl rfl, Below.refl _ _⟩
              case round =>
                obtain ⟨hi, hbz⟩ := hrel
                rcases hi with rfl | rfl | rfl | rfl | rfl
                · have d2 := (hbz.cell (p := ⟨bl, k, none⟩) hblW).trans dW
                  have z0 := Eq.trans (hbz.cell (by exact hgW)) a0
                  have z1 := Eq.trans (hbz.cell (by exact hgW)) a1
                  go_wp2
                  obtain ⟨V, hV⟩ : ∃ V, V = wr.alloc (.cells #[.int .i64 x, .int .i64 (y + 1)] 42) := ⟨_, rfl⟩
                  have b9 : Below wr.heap.size wr V := by rw [hV]; exact box_below _ _ _
                  have f1 := cell_regrown (show V.cell? ⟨wr.heap.size, 0, none⟩ = some (.int .i64 x) by rw [hV]; simp [go_sem])
                  have f2 := cell_regrown (show V.cell? ⟨wr.heap.size, 1, none⟩ = some (.int .i64 (y + 1)) by rw [hV]; simp [go_sem])
                  have hz1 := hbz.size
                  have f0 := cell_regrown ((b9.cell (p := ⟨bl, k, none⟩) (Nat.lt_of_lt_of_le hblW hz1)).trans d2)
                  have rqV := (rqW.kept hbz).kept b9
                  have rpV := (rpW.kept hbz).kept b9
                  rw [← hV]
                  have bV := below_step hbz b9
                  clear hV d2 z0 z1 b9 hbz
                  have hbes := HB.out (x, y) (x, (y + 1)) HM.out (ring_r0 x y)
                  rcases h1 : hasB q (x, (y + 1)) with _ | _
                  · have h2 : hasB ps (x, (y + 1)) = true := by
                      rcases hbes with k1 | k1
                      · rw [h1] at k1; cases k1
                      · exact k1
                    have H1 := Lib.hid h1
                    have H2 := Lib.hid h2
                    clear h1 h2 hbes
                    go_wp2
                    refine wp_region_quiet_below (by kernel_rfl) (by kernel_rfl) ?_
                    repeat (go_big_quiet_step (first | (go_at_call 32; with_reducible exact gives_regrown (fun w1 hb1 => gives_is H1.out (implHas_any _ _ _ _ w1 (rqV.kept hb1))) _ _) | (go_at_call 32; with_reducible exact gives_regrown (fun w1 hb1 => gives_is H2.out (implHas_any _ _ _ _ w1 (rpV.kept hb1))) _ _)))
                    refine wpQuiet_nil ?_
                    intro w9 hw'
                    obtain ⟨⟨dq, osq⟩, hw''⟩ := hw'
                    have hN : Below V.heap.size V w9 := by rw [hw'']; exact below_regrown _ _ _
                    clear hw'' dq osq
                    go_wp2
                    go_roundw
                    case rel => exact ⟨.inr (.inl rfl), below_step bV hN⟩
                    case measure => decide
                  · have H1 := Lib.hid h1
                    clear h1 hbes
                    go_wp2
                    refine wp_region_quiet_below (by kernel_rfl) (by kernel_rfl) ?_
                    repeat (go_big_quiet_step (first | (go_at_call 32; with_reducible exact gives_regrown (fun w1 hb1 => gives_is H1.out (implHas_any _ _ _ _ w1 (rqV.kept hb1))) _ _)))
                    refine wpQuiet_nil ?_
                    intro w9 hw'
                    obtain ⟨⟨dq, osq⟩, hw''⟩ := hw'
                    have hN : Below V.heap.size V w9 := by rw [hw'']; exact below_regrown _ _ _
                    clear hw'' dq osq
                    go_wp2
                    go_roundw
                    case rel => exact ⟨.inr (.inl rfl), below_step bV hN⟩
                    case measure => decide
                · have d2 := (hbz.cell (p := ⟨bl, k, none⟩) hblW).trans dW
                  have z0 := Eq.trans (hbz.cell (by exact hgW)) a0
                  have z1 := Eq.trans (hbz.cell (by exact hgW)) a1
                  go_wp2
                  obtain ⟨V, hV⟩ : ∃ V, V = wr.alloc (.cells #[.int .i64 (x + 1), .int .i64 y] 42) := ⟨_, rfl⟩
                  have b9 : Below wr.heap.size wr V := by rw [hV]; exact box_below _ _ _
                  have f1 := cell_regrown (show V.cell? ⟨wr.heap.size, 0, none⟩ = some (.int .i64 (x + 1)) by rw [hV]; simp [go_sem])
                  have f2 := cell_regrown (show V.cell? ⟨wr.heap.size, 1, none⟩ = some (.int .i64 y) by rw [hV]; simp [go_sem])
                  have hz1 := hbz.size
                  have f0 := cell_regrown ((b9.cell (p := ⟨bl, k, none⟩) (Nat.lt_of_lt_of_le hblW hz1)).trans d2)
                  have rqV := (rqW.kept hbz).kept b9
                  have rpV := (rpW.kept hbz).kept b9
                  rw [← hV]
                  have bV := below_step hbz b9
                  clear hV d2 z0 z1 b9 hbz
                  have hbes := HB.out (x, y) ((x + 1), y) HM.out (ring_r1 x y)
                  rcases h1 : hasB q ((x + 1), y) with _ | _
                  · have h2 : hasB ps ((x + 1), y) = true := by
                      rcases hbes with k1 | k1
                      · rw [h1] at k1; cases k1
                      · exact k1
                    have H1 := Lib.hid h1
                    have H2 := Lib.hid h2
                    clear h1 h2 hbes
                    go_wp2
                    refine wp_region_quiet_below (by kernel_rfl) (by kernel_rfl) ?_
                    repeat (go_big_quiet_step (first | (go_at_call 32; with_reducible exact gives_regrown (fun w1 hb1 => gives_is H1.out (implHas_any _ _ _ _ w1 (rqV.kept hb1))) _ _) | (go_at_call 32; with_reducible exact gives_regrown (fun w1 hb1 => gives_is H2.out (implHas_any _ _ _ _ w1 (rpV.kept hb1))) _ _)))
                    refine wpQuiet_nil ?_
                    intro w9 hw'
                    obtain ⟨⟨dq, osq⟩, hw''⟩ := hw'
                    have hN : Below V.heap.size V w9 := by rw [hw'']; exact below_regrown _ _ _
                    clear hw'' dq osq
                    go_wp2
                    go_roundw
                    case rel => exact ⟨.inr (.inr (.inl rfl)), below_step bV hN⟩
                    case measure => decide
                  · have H1 := Lib.hid h1
                    clear h1 hbes
                    go_wp2
                    refine wp_region_quiet_below (by kernel_rfl) (by kernel_rfl) ?_
                    repeat (go_big_quiet_step (first | (go_at_call 32; with_reducible exact gives_regrown (fun w1 hb1 => gives_is H1.out (implHas_any _ _ _ _ w1 (rqV.kept hb1))) _ _)))
                    refine wpQuiet_nil ?_
                    intro w9 hw'
                    obtain ⟨⟨dq, osq⟩, hw''⟩ := hw'
                    have hN : Below V.heap.size V w9 := by rw [hw'']; exact below_regrown _ _ _
                    clear hw'' dq osq
                    go_wp2
                    go_roundw
                    case rel => exact ⟨.inr (.inr (.inl rfl)), below_step bV hN⟩
                    case measure => decide
                · have d2 := (hbz.cell (p := ⟨bl, k, none⟩) hblW).trans dW
                  have z0 := Eq.trans (hbz.cell (by exact hgW)) a0
                  have z1 := Eq.trans (hbz.cell (by exact hgW)) a1
                  go_wp2
                  obtain ⟨V, hV⟩ : ∃ V, V = wr.alloc (.cells #[.int .i64 x, .int .i64 (y + -1)] 42) := ⟨_, rfl⟩
                  have b9 : Below wr.heap.size wr V := by rw [hV]; exact box_below _ _ _
                  have f1 := cell_regrown (show V.cell? ⟨wr.heap.size, 0, none⟩ = some (.int .i64 x) by rw [hV]; simp [go_sem])
                  have f2 := cell_regrown (show V.cell? ⟨wr.heap.size, 1, none⟩ = some (.int .i64 (y + -1)) by rw [hV]; simp [go_sem])
                  have hz1 := hbz.size
                  have f0 := cell_regrown ((b9.cell (p := ⟨bl, k, none⟩) (Nat.lt_of_lt_of_le hblW hz1)).trans d2)
                  have rqV := (rqW.kept hbz).kept b9
                  have rpV := (rpW.kept hbz).kept b9
                  rw [← hV]
                  have bV := below_step hbz b9
                  clear hV d2 z0 z1 b9 hbz
                  have hbes := HB.out (x, y) (x, (y + -1)) HM.out (ring_r2 x y)
                  rcases h1 : hasB q (x, (y + -1)) with _ | _
                  · have h2 : hasB ps (x, (y + -1)) = true := by
                      rcases hbes with k1 | k1
                      · rw [h1] at k1; cases k1
                      · exact k1
                    have H1 := Lib.hid h1
                    have H2 := Lib.hid h2
                    clear h1 h2 hbes
                    go_wp2
                    refine wp_region_quiet_below (by kernel_rfl) (by kernel_rfl) ?_
                    repeat (go_big_quiet_step (first | (go_at_call 32; with_reducible exact gives_regrown (fun w1 hb1 => gives_is H1.out (implHas_any _ _ _ _ w1 (rqV.kept hb1))) _ _) | (go_at_call 32; with_reducible exact gives_regrown (fun w1 hb1 => gives_is H2.out (implHas_any _ _ _ _ w1 (rpV.kept hb1))) _ _)))
                    refine wpQuiet_nil ?_
                    intro w9 hw'
                    obtain ⟨⟨dq, osq⟩, hw''⟩ := hw'
                    have hN : Below V.heap.size V w9 := by rw [hw'']; exact below_regrown _ _ _
                    clear hw'' dq osq
                    go_wp2
                    go_roundw
                    case rel => exact ⟨.inr (.inr (.inr (.inl rfl))), below_step bV hN⟩
                    case measure => decide
                  · have H1 := Lib.hid h1
                    clear h1 hbes
                    go_wp2
                    refine wp_region_quiet_below (by kernel_rfl) (by kernel_rfl) ?_
                    repeat (go_big_quiet_step (first | (go_at_call 32; with_reducible exact gives_regrown (fun w1 hb1 => gives_is H1.out (implHas_any _ _ _ _ w1 (rqV.kept hb1))) _ _)))
                    refine wpQuiet_nil ?_
                    intro w9 hw'
                    obtain ⟨⟨dq, osq⟩, hw''⟩ := hw'
                    have hN : Below V.heap.size V w9 := by rw [hw'']; exact below_regrown _ _ _
                    clear hw'' dq osq
                    go_wp2
                    go_roundw
                    case rel => exact ⟨.inr (.inr (.inr (.inl rfl))), below_step bV hN⟩
                    case measure => decide
                · have d2 := (hbz.cell (p := ⟨bl, k, none⟩) hblW).trans dW
                  have z0 := Eq.trans (hbz.cell (by exact hgW)) a0
                  have z1 := Eq.trans (hbz.cell (by exact hgW)) a1
                  go_wp2
                  obtain ⟨V, hV⟩ : ∃ V, V = wr.alloc (.cells #[.int .i64 (x + -1), .int .i64 y] 42) := ⟨_, rfl⟩
                  have b9 : Below wr.heap.size wr V := by rw [hV]; exact box_below _ _ _
                  have f1 := cell_regrown (show V.cell? ⟨wr.heap.size, 0, none⟩ = some (.int .i64 (x + -1)) by rw [hV]; simp [go_sem])
                  have f2 := cell_regrown (show V.cell? ⟨wr.heap.size, 1, none⟩ = some (.int .i64 y) by rw [hV]; simp [go_sem])
                  have hz1 := hbz.size
                  have f0 := cell_regrown ((b9.cell (p := ⟨bl, k, none⟩) (Nat.lt_of_lt_of_le hblW hz1)).trans d2)
                  have rqV := (rqW.kept hbz).kept b9
                  have rpV := (rpW.kept hbz).kept b9
                  rw [← hV]
                  have bV := below_step hbz b9
                  clear hV d2 z0 z1 b9 hbz
                  have hbes := HB.out (x, y) ((x + -1), y) HM.out (ring_r3 x y)
                  rcases h1 : hasB q ((x + -1), y) with _ | _
                  · have h2 : hasB ps ((x + -1), y) = true := by
                      rcases hbes with k1 | k1
                      · rw [h1] at k1; cases k1
                      · exact k1
                    have H1 := Lib.hid h1
                    have H2 := Lib.hid h2
                    clear h1 h2 hbes
                    go_wp2
                    refine wp_region_quiet_below (by kernel_rfl) (by kernel_rfl) ?_
                    repeat (go_big_quiet_step (first | (go_at_call 32; with_reducible exact gives_regrown (fun w1 hb1 => gives_is H1.out (implHas_any _ _ _ _ w1 (rqV.kept hb1))) _ _) | (go_at_call 32; with_reducible exact gives_regrown (fun w1 hb1 => gives_is H2.out (implHas_any _ _ _ _ w1 (rpV.kept hb1))) _ _)))
                    refine wpQuiet_nil ?_
                    intro w9 hw'
                    obtain ⟨⟨dq, osq⟩, hw''⟩ := hw'
                    have hN : Below V.heap.size V w9 := by rw [hw'']; exact below_regrown _ _ _
                    clear hw'' dq osq
                    go_wp2
                    go_roundw
                    case rel => exact ⟨.inr (.inr (.inr (.inr rfl))), below_step bV hN⟩
                    case measure => decide
                  · have H1 := Lib.hid h1
                    clear h1 hbes
                    go_wp2
                    refine wp_region_quiet_below (by kernel_rfl) (by kernel_rfl) ?_
                    repeat (go_big_quiet_step (first | (go_at_call 32; with_reducible exact gives_regrown (fun w1 hb1 => gives_is H1.out (implHas_any _ _ _ _ w1 (rqV.kept hb1))) _ _)))
                    refine wpQuiet_nil ?_
                    intro w9 hw'
                    obtain ⟨⟨dq, osq⟩, hw''⟩ := hw'
                    have hN : Below V.heap.size V w9 := by rw [hw'']; exact below_regrown _ _ _
                    clear hw'' dq osq
                    go_wp2
                    go_roundw
                    case rel => exact ⟨.inr (.inr (.inr (.inr rfl))), below_step bV hN⟩
                    case measure => decide
                · go_wp2
                  go_roundw
                  case rel => exact ⟨j + 1, by omega, by go_num, below_step hbW hbz⟩
                  case measure => simp [intOf]; omega
            · obtain rfl : j = q.length := by omega
              go_wp2
              go_roundw
              case rel => exact ⟨k + 1, by omega, by go_num, hbq⟩
              case measure => simp [intOf]; omega
      · obtain rfl : k = ls.length := by omega
        have bb := below_step bb hbw
        go_wp2_with fail
        refine (alive_any _).mono ?_
        rintro e w7 ⟨rfl, bn⟩
        have bb := below_step bb bn
        go_wp2
        go_ret
        exact ⟨rfl, bb⟩
set_option maxRecDepth 100000 in
theorem lifted (os : Os) (started : os.Started) (H : Type) (enc : TypeId × Value → H) :
    ReturnsInHanded {} Try.checked os 6 .any (Rows.fnHolesOfSpec.pre6 enc Try.prog Try.f6 Rows.fnHolesOfRow.domain false) (Rows.fnHolesOfSpec.post enc Try.prog Try.f6 false true false false) := by
  refine returnsInHanded_of_change (C := Try.checked) own started (by kernel_rfl) Try.func6
    (ChangeSpec.witness6 (enc := enc) (C := Try.checked) false ⟨#[], #[.slice none 0 0], []⟩ 8 (by kernel_rfl) (by kernel_rfl) (by kernel_rfl) (by kernel_rfl)) ?_
  intro W base args ds gs before hval0 hW _ _
  have hval : ∀ (j : Nat) t v, Try.f6.params[j]? = some t → args[j]? = some v → Value.okWide Try.prog W .any base t v := hval0
  have hW' := hW
  obtain ⟨p, q, hA0, hV, rfl, _, _⟩ := hW
  have hA : DataW.TrodAll enc Try.prog W 0 (fun _ => true) true Try.f6.params.toList args.toList ds p := hA0
  rw [Try.params6] at hA hval
  obtain ⟨v0, d0, rfl, rfl, h0⟩ := trodAll_one hA
  obtain ⟨rfl, rfl⟩ := trodVars_none hV
  clear hA0 hval0
  simp only [List.append_nil] at hW'
  have hlt : ∀ x ∈ p, x.block < W.heap.size := fun x hx => by simpa using hW'.lt x hx
  have r0 := open_bytes (hval 0 22 v0 rfl rfl) h0 hlt
  obtain ⟨⟨bA, bn, bc⟩, rfl, rb, rn, rc⟩ := r0
  simp only at rb rn rc
  refine (walk bA bn bc W rb rn rc).mono fun e W' hg => ?_
  obtain ⟨he, hb⟩ := hg
  subst he
  exact ⟨_, rfl, _, _, _, [], p, [], hW', trodAll_mk1 (shut_bool Try.underlying4 _), trodAll_mk1 (kept_arg (by kernel_rfl) (of_decide_eq_true (by kernel_rfl)) h0 hb hlt), rfl, hb.frame _, fun h => by cases h⟩

theorem holds : Rows.FnHolesOfSaid :=
  OpenClaim.holds_of_wide 6 Try.f6 rfl rfl rfl rfl rfl rfl rfl ⟨rfl, rfl, rfl, rfl, rfl⟩ rfl rfl rfl rfl rfl (by kernel_rfl) Try.func6 (by kernel_rfl)
    (of_decide_eq_true (by kernel_rfl)) (by unfold Func.isWrapper; first | (rw [if_pos (by decide +kernel)]; kernel_rfl) | (rw [if_neg (by decide +kernel)]; exact ⟨rfl, rfl⟩))
    (fun os started H enc _ => lifted os started H enc)
end Go.Proofs.Ytmpfhdcefilekaa.fnHolesOf
