/- The program's TextOf. No conditions but those typed: what the library's table of powers of ten holds ('PowOk'). -/
import Derived.Test.YtjncnjcpcmpmcaaDoorLibT
import Derived.Test.YtjncnjcpcmpmcaaDoorRowTI
import Derived.Test.YtjncnjcpcmpmcaaDoorTextO
namespace Go.Proofs.YtjncnjcpcmpmcaaDoor
open Go.RowKit Go.Sort

theorem itoa_lit {n : Int} {l : Bs} (h : -1000000 < n ∧ n < 1000000) (hl : numB n = l) (w : World) (hp : PowOk w) : Calls Tryd.prog 37 #[.int .i64 n] w (Gives (strV l) w) := by
  subst hl; exact itoa_any n h w hp
theorem joinI_lit {r : List Bs} {J : Bs} {v : Value} {b : Nat} {w : World} (h : VOwns 9 w b v (strZ r)) (h0 : r ≠ []) (hr : r.length ≤ 1000) (hJ : joinB 47 r = J) (hl : J.length ≤ 1000000) :
    Calls Tryd.prog 38 #[v, .string (bs [47])] w (Gives (strV J) w) := by
  subst hJ; exact join_any r v b w h h0 hr hl
theorem rowsI_lit {p : List Sp} {v : Value} {w : World} {r : List Bs} (h : Reads w w.heap.size v p) (hr : rowsT p = r) : Calls Tryd.prog 20 #[v] w (GivesStrs r w) := by
  subst hr; exact implRowsT_any p v w h
set_option maxRecDepth 100000 in
set_option maxHeartbeats 1600000 in
theorem implTextT_any (ps : List Sp) (v : Value) (w : World) (h : Reads w w.heap.size v ps) (hpw : PowOk w) : Calls Tryd.prog 12 #[v] w (Gives (strV (textT ps)) w) := by
  rcases hp : picB ps with _ | _
  · rw [textT_no hp]
    go_enter Tryd.func12, Tryd.ntmps12
    go_wp2_with fail
    refine (gives_is hp (implPicture_any ps _ _ h)).mono ?_
    rintro e w1 ⟨rfl, b1⟩
    go_wp2
    go_ret
    exact ⟨rfl, b1⟩
  · by_cases h0 : ps = []
    · subst h0
      rw [textT_nil]
      have cc := Lib.hid (fun W (hW : Reads W W.heap.size v ([] : List Sp)) => boxI_lit hW (show boxOk [] = false by unfold boxOk; simp) (box_no (by unfold boxOk; simp)))
      have hpc := gives_is hp (implPicture_any [] _ _ h)
      clear hp
      go_enter Tryd.func12, Tryd.ntmps12
      go_wp2_with fail
      refine hpc.mono ?_
      rintro e w1 ⟨rfl, b1⟩
      clear hpc
      go_wp2_with fail
      refine (cc.out _ (h.kept b1)).mono ?_
      rintro e w2 ⟨rfl, b2⟩
      have bb := below_step b1 b2
      have hs := bb.size
      have b3 := (bb.alloc hs (.cells #[.int .i64 0, .int .i64 0] 32)).alloc (by simp; omega) (.cells #[.int .i64 0, .int .i64 0] 32)
      go_wp2
      all_goals
        go_ret
        exact ⟨rfl, b3⟩
    · have hk : boxOk ps = true := by unfold boxOk; rw [hp]; simp [h0]
      have eB : boxR ps = boxL ps := by unfold boxR; rw [hk]; rfl
      obtain ⟨k1, k2⟩ := box_in hp h0
      obtain ⟨r1, r2⟩ := rowsT_bound hp h0
      rw [textT_yes hp h0]
      have hpc := gives_is hp (implPicture_any ps _ _ h)
      obtain ⟨R, hR⟩ : ∃ R, rowsT ps = R := ⟨_, rfl⟩
      have hRne : R ≠ [] := by rw [← hR]; exact rowsT_ne hp h0
      rw [hR] at r1 r2 ⊢
      have lJ := joinB_length (c := 47) r2
      obtain ⟨J, hJ⟩ : ∃ J, joinB 47 R = J := ⟨_, rfl⟩
      rw [hJ] at lJ ⊢
      have CR := Lib.hid (fun W (hW : Reads W W.heap.size v ps) => rowsI_lit hW hR)
      have CB := Lib.hid (fun W (hW : Reads W W.heap.size v ps) => boxI_lit hW hk eB)
      have CJ := Lib.hid (fun (u : Value) (b : Nat) W (hW : VOwns 9 W b u (strZ R)) => joinI_lit hW hRne (by omega) hJ (by omega))
      clear hR eB hk r2 hJ
      generalize boxL ps = B at *
      obtain ⟨⟨lx, ly⟩, ⟨hx, hy⟩⟩ := B
      simp only at k1 k2 CB ⊢
      clear hp
      have CX := Lib.hid (fun W (hW : PowOk W) => itoa_any lx (by omega) W hW)
      have CY := Lib.hid (fun W (hW : PowOk W) => itoa_any ly (by omega) W hW)
      have lX := numB_length (n := lx) (by omega)
      have lY := numB_length (n := ly) (by omega)
      generalize numB lx = X at *
      generalize numB ly = Y at *
      obtain ⟨P1, hP1⟩ : ∃ l, X ++ [44] = l := ⟨_, rfl⟩
      obtain ⟨P2, hP2⟩ : ∃ l, P1 ++ Y = l := ⟨_, rfl⟩
      obtain ⟨P3, hP3⟩ : ∃ l, P2 ++ [58] = l := ⟨_, rfl⟩
      have l1 : P1.length ≤ 4 := by rw [← hP1]; simp; omega
      have l2 : P2.length ≤ 7 := by rw [← hP2]; simp; omega
      have l3 : P3.length ≤ 8 := by rw [← hP3]; simp; omega
      have a1 := add_lit (P := Tryd.prog) X 44 (by omega)
      have a2 := add_two (P := Tryd.prog) P1 Y (by omega) (by omega)
      have a3 := add_lit (P := Tryd.prog) P2 58 (by omega)
      have a4 := add_two (P := Tryd.prog) P3 J (by omega) (by omega)
      rw [hP1] at a1
      rw [hP2] at a2
      rw [hP3] at a3
      have HT := Lib.hid (show X ++ 44 :: (Y ++ 58 :: J) = P3 ++ J by rw [← hP3, ← hP2, ← hP1]; simp)
      rw [HT.out]
      clear hP1 hP2 hP3 HT l1 l2 l3 lX lY lJ
      go_enter Tryd.func12, Tryd.ntmps12
      go_wp2_with fail
      refine hpc.mono ?_
      rintro e w1 ⟨rfl, b1⟩
      clear hpc
      go_wp2_with fail
      refine (CB.out _ (h.kept b1)).mono ?_
      rintro e w2 ⟨rfl, b2⟩
      simp only
      have bb := below_step b1 b2
      have hs := bb.size
      have q1 := first_block w2 (.cells #[.int .i64 lx, .int .i64 ly] 32) (.cells #[.int .i64 hx, .int .i64 hy] 32)
      obtain ⟨c0, c1⟩ := cells_of_row q1
      have bb := (bb.alloc hs (.cells #[.int .i64 lx, .int .i64 ly] 32)).alloc (by simp; omega) (.cells #[.int .i64 hx, .int .i64 hy] 32)
      clear b1 b2 q1
      go_wp2
      generalize ((w2.alloc (.cells #[.int .i64 lx, .int .i64 ly] 32)).alloc (.cells #[.int .i64 hx, .int .i64 hy] 32)) = W at *
      obtain ⟨G, hG⟩ : ∃ G, w2.heap.size = G := ⟨_, rfl⟩
      rw [hG] at c0 c1 ⊢
      have hGW : G < W.drew.heap.size := World.block_lt_of_cell? _ _ c0
      have bb := bb.drew
      have pw := hpw.below bb
      clear hG hs hpw
      go_region_held3 (fun w' => w'.cell? ⟨G, 0, none⟩ = some (.int .i64 lx) ∧ w'.cell? ⟨G, 1, none⟩ = some (.int .i64 ly)) (with_reducible exact ⟨c0, c1⟩)
        (first
          | (go_at_call 37; (with_reducible refine (CX.out _ pw).mono ?_); rintro e w3 ⟨rfl, hb⟩; have c0 := (hb.cell (p := ⟨G, 0, none⟩) hGW).trans c0; have c1 := (hb.cell (p := ⟨G, 1, none⟩) hGW).trans c1; have bb := below_step bb hb; have pw := pw.below hb; have hGW := Nat.lt_of_lt_of_le hGW hb.size; clear hb)
          | (go_at_call 37; (with_reducible refine (CY.out _ pw).mono ?_); rintro e w4 ⟨rfl, hb⟩; have c0 := (hb.cell (p := ⟨G, 0, none⟩) hGW).trans c0; have c1 := (hb.cell (p := ⟨G, 1, none⟩) hGW).trans c1; have bb := below_step bb hb; have pw := pw.below hb; have hGW := Nat.lt_of_lt_of_le hGW hb.size; clear hb)
          | (go_at_call 20; (with_reducible refine (CR.out _ (h.kept bb)).mono ?_); rintro e w5 ⟨vR, rfl, oR, hb⟩; have c0 := (hb.cell (p := ⟨G, 0, none⟩) hGW).trans c0; have c1 := (hb.cell (p := ⟨G, 1, none⟩) hGW).trans c1; have bb := below_step bb hb; have hGW := Nat.lt_of_lt_of_le hGW hb.size; clear hb)
          | (go_at_call 38; refine (CJ.out _ _ _ oR).mono ?_; rintro e w6 ⟨rfl, hb⟩; have c0 := (hb.cell (p := ⟨G, 0, none⟩) hGW).trans c0; have c1 := (hb.cell (p := ⟨G, 1, none⟩) hGW).trans c1; have bb := below_step bb hb; have hGW := Nat.lt_of_lt_of_le hGW hb.size; clear hb))
      go_wp2
      go_ret
      exact ⟨rfl, bb⟩
end Go.Proofs.YtjncnjcpcmpmcaaDoor
