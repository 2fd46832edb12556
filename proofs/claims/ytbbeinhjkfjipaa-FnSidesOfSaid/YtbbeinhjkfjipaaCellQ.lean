/- Texts of one kind, merged: CellI, CellQ. No conditions but those that stand in each theorem. -/
import Derived.Test.YtbbeinhjkfjipaaCellS
import Derived.Test.YtbbeinhjkfjipaaTalQ
namespace Go.Proofs.Ytbbeinhjkfjipaa
/-! ### CellI -/
section
open Go.RowKit Go.Sort Go.Maps

theorem tally_sides (ps : List Sp) : ∀ a, a ∈ sdsL ps ↔ a ∈ sidesM ps := fun _ => mem_sidesM
theorem tally_corners (ps : List Sp) : ∀ a, a ∈ (qcL ps).map Prod.fst ↔ a ∈ cornM ps := fun _ => mem_cornM
set_option maxRecDepth 100000 in
theorem implCorners_any (ps : List Sp) (v : Value) (w : World) (h : Reads w w.heap.size v ps) : Calls Try.prog 14 #[v] w (Gives (.int .i64 (cornersR ps)) w) := by
  rcases hp : picB ps with _ | _
  · rw [cornersR_no hp]
    go_enter Try.func14, Try.ntmps14
    go_wp2_with fail
    refine (gives_is hp (implPicture_any ps _ _ h)).mono ?_
    rintro e w1 ⟨rfl, b1⟩
    go_wp2
    go_ret
    exact ⟨rfl, b1⟩
  · have hR : cornersR ps = ((cornM ps).length : Nat) := by unfold cornersR cornersN cornM; rw [hp]; rfl
    rw [hR]
    have hpl := (picB_pic hp).1
    have hin := (picB_pic hp).2.1
    have hpc := gives_is hp (implPicture_any ps _ _ h)
    clear hp hR
    go_enter Try.func14, Try.ntmps14
    go_wp2_with fail
    refine hpc.mono ?_
    rintro e w1 ⟨rfl, b1⟩
    go_wp2_with fail
    refine (quadsAt_any ps _ _ (h.kept b1) hin hpl).mono ?_
    rintro e w2 ⟨B, rfl, hB, tal, b2⟩
    have bb := below_step b1 b2
    go_wp2_with (at_len; refine wpList_len_tally (tal : Tally _ _ _ _ _ _ _ _ _ _) (nodup_cornM ps) (tally_corners ps) rfl _ _ rfl Try.underlying49 rfl ?_)
    go_wp2
    go_ret
    exact ⟨rfl, bb⟩
set_option maxRecDepth 100000 in
theorem implSides_any (ps : List Sp) (v : Value) (w : World) (h : Reads w w.heap.size v ps) : Calls Try.prog 26 #[v] w (Gives (.int .i64 (sidesR ps)) w) := by
  rcases hp : picB ps with _ | _
  · rw [sidesR_no hp]
    go_enter Try.func26, Try.ntmps26
    go_wp2_with fail
    refine (gives_is hp (implPicture_any ps _ _ h)).mono ?_
    rintro e w1 ⟨rfl, b1⟩
    go_wp2
    go_ret
    exact ⟨rfl, b1⟩
  · have hR : sidesR ps = ((sidesM ps).length : Nat) := by rw [sidesR_yes hp, sidesM_len (picB_pic hp).2.2]
    rw [hR]
    have hpl := (picB_pic hp).1
    have hin := (picB_pic hp).2.1
    have hpc := gives_is hp (implPicture_any ps _ _ h)
    clear hp hR
    go_enter Try.func26, Try.ntmps26
    go_wp2_with fail
    refine hpc.mono ?_
    rintro e w1 ⟨rfl, b1⟩
    go_wp2_with fail
    refine (cellsAt_any ps _ _ (h.kept b1) hin hpl).mono ?_
    rintro e w2 ⟨B, rfl, hB, tal, b2⟩
    have bb := below_step b1 b2
    go_wp2_with (at_len; refine wpList_len_tally (tal : Tally _ _ _ _ _ _ _ _ _ _) (nodup_sidesM ps) (tally_sides ps) rfl _ _ rfl Try.underlying60 rfl ?_)
    go_wp2
    go_ret
    exact ⟨rfl, bb⟩
theorem corI_lit' {n : Int} {p : List Sp} {v : Value} {w : World} (hn : cornersR p = n) (h : Reads w w.heap.size v p) : Calls Try.prog 14 #[v] w (Gives (.int .i64 n) w) := by
  subst hn; exact implCorners_any p v w h
theorem sidI_lit' {n : Int} {p : List Sp} {v : Value} {w : World} (hn : sidesR p = n) (h : Reads w w.heap.size v p) : Calls Try.prog 26 #[v] w (Gives (.int .i64 n) w) := by
  subst hn; exact implSides_any p v w h
set_option maxRecDepth 100000 in
theorem implBorder_any (ps : List Sp) (v : Value) (w : World) (h : Reads w w.heap.size v ps) : Calls Try.prog 20 #[v] w (Gives (.int .i64 (borderR ps)) w) := by
  rcases hp : picB ps with _ | _
  · rw [borderR_no hp]
    go_enter Try.func20, Try.ntmps20
    go_wp2_with fail
    refine (gives_is hp (implPicture_any ps _ _ h)).mono ?_
    rintro e w1 ⟨rfl, b1⟩
    go_wp2
    go_ret
    exact ⟨rfl, b1⟩
  · have hR := Lib.hid (show borderR ps = (((sidesM ps).filter fun s => decide (timesIn (sdsL ps) s = 1)).length : Nat) by rw [borderR_yes hp, border_times (picB_pic hp).2.2])
    have hpl := (picB_pic hp).1
    have hin := (picB_pic hp).2.1
    have hpc := gives_is hp (implPicture_any ps _ _ h)
    have hml : (sidesM ps).length ≤ 240 := by
      have h1 := sidesM_len (picB_pic hp).2.2
      have h2 := sides_range hp
      omega
    clear hp
    go_enter Try.func20, Try.ntmps20
    go_wp2_with fail
    refine hpc.mono ?_
    rintro e w1 ⟨rfl, b1⟩
    go_wp2_with fail
    refine (cellsAt_any ps _ _ (h.kept b1) hin hpl).mono ?_
    rintro e w2 ⟨B, rfl, hB, tal, b2⟩
    have bb := below_step b1 b2
    obtain ⟨D, hown, hd⟩ := (tal : Tally _ _ _ _ _ _ _ _ _ _)
    clear b1 b2 hpc h
    go_wp2_with (at_range; refine wpList_range_own _ rfl _ 60 rfl 63 3 sideKeyW.law Try.underlying60 _ B _ D rfl hown ?_; intro w0 hrg0 hg0 hs0)
    go_frame
    have hmem := Lib.hid (tally_sides ps)
    have hnd := Lib.hid (nodup_sidesM ps)
    obtain ⟨r, hr⟩ : ∃ r, w2.heap.size = r := ⟨_, rfl⟩
    rw [hr] at hrg0 ⊢
    have hrB : w.heap.size ≤ r := by rw [← hr]; exact bb.size
    have b0 := bb.grown hg0 bb.size (fun j hj => by cases hj)
    have z0 := doneN_start hd (tally_sides ps) (fun s => decide (timesIn (sdsL ps) s = 1))
    have L0 := leftOk_start hd (tally_sides ps)
    have hokK : ∀ a ∈ sidesM ps, spotIn a.1 := fun a ha => hd.okl a ((tally_sides ps a).2 ha)
    clear hg0 hs0 bb hr hown
    go_loopw [3] (fun n wr => ∃ (left : Lit → Bool) (cnt : Nat), wr.ranges Try.prog 63 (plainElem Try.prog 3) B r (sdsL ps).length D left cnt ∧ n = .int .i64 (doneN sideLit (sidesM ps) left (fun s => decide (timesIn (sdsL ps) s = 1)) : Nat) ∧ LeftOk sideLit (sidesM ps) left ∧ Below w.heap.size w wr) (fun _ wr => wr.rangeLeft B r)
    case atStart => exact ⟨_, _, hrg0, ret_lt (by rw [z0]; rfl), L0, b0⟩
    case round =>
      clear hrg0 z0 L0 b0
      obtain ⟨left, cnt, hrg, rfl, hL, hbw⟩ := hrel
      go_wp2_with (at_next; refine wpList_next_tally sideKeyW hd hmem.out hL rfl _ rfl Try.underlying3 rfl hrg ?_ ?_; rotate_left; intro c w3 cnt' hcK hlc hwf hrg1 hlt hg1 hs1 hen; rotate_left)
      · intro hl0
        have HE := Lib.hid (doneN_end (lit := sideLit) (K := sidesM ps) hl0 (fun s => decide (timesIn (sdsL ps) s = 1)))
        go_wp2
        go_ret
        exact ⟨by rw [hR.out, HE.out]; rfl, hbw⟩
      all_goals
        have HS := Lib.hid (doneN_step sideKeyW hnd.out hokK hcK hlc (fun s => decide (timesIn (sdsL ps) s = 1)))
        have HD : (doneN sideLit (sidesM ps) left (fun s => decide (timesIn (sdsL ps) s = 1))) ≤ 240 := Nat.le_trans (doneN_le _) hml
        have bw3 := hbw.grown hg1 hbw.size (fun j hj => by cases hj; exact hrB)
        have HM := Lib.hid (show w3.rangeLeft B r < wr.rangeLeft B r by rw [hrg1.left_eq, hrg.left_eq]; exact hlt)
        have HL := hL.step (sideLit c)
        generalize doneN sideLit (sidesM ps) left (fun s => decide (timesIn (sdsL ps) s = 1)) = z at *
      · have h1 : timesIn (sdsL ps) c = 1 := by
          have : timesF (sdsL ps) c = 1 := by simpa using (by assumption : (timesF (sdsL ps) c == 1) = true)
          unfold timesF at this; omega
        have HS := Lib.hid (HS.out.trans (show _ = z + 1 by rw [decide_eq_true h1, if_pos rfl]))
        have hz : wrap64 ((z : Int) + 1) = (z : Int) + 1 := IntWalk.wrap64_in _ (by omega)
        go_roundw
        case rel => exact ⟨_, cnt', hrg1, by rw [HS.out, hz]; rfl, HL, bw3⟩
        case measure => exact HM.out
      · have h1 : timesIn (sdsL ps) c ≠ 1 := by
          have : timesF (sdsL ps) c ≠ 1 := by simpa using (by assumption : (timesF (sdsL ps) c == 1) = false)
          unfold timesF at this; omega
        have HS := Lib.hid (HS.out.trans (show _ = z by rw [decide_eq_false h1]; simp))
        go_roundw
        case rel => exact ⟨_, cnt', hrg1, by rw [HS.out], HL, bw3⟩
        case measure => exact HM.out
set_option maxRecDepth 100000 in
theorem implEuler_any (ps : List Sp) (v : Value) (w : World) (h : Reads w w.heap.size v ps) : Calls Try.prog 29 #[v] w (GivesN (eulerR ps) (picB ps) w) := by
  obtain ⟨A, c, rfl, hc, hm⟩ := h.slice
  unfold maxLen at hm
  rcases hp : picB ps with _ | _
  · rw [eulerR_no hp]
    go_enter Try.func29, Try.ntmps29
    go_wp2_with fail
    refine (gives_is hp (implPicture_any ps _ _ h)).mono ?_
    rintro e w1 ⟨rfl, b1⟩
    go_wp2
    go_ret2
    exact ⟨rfl, b1⟩
  · rw [eulerR_yes hp]
    have h1 := cornersR_yes hp
    have h2 := sidesR_yes hp
    have h3 := ways_le hp (j := 15) (by omega)
    obtain ⟨h4, h5⟩ := sides_range hp
    have h6 := (picB_pic hp).1
    obtain ⟨s, hs⟩ : ∃ s, sidesI ps = s := ⟨_, rfl⟩
    obtain ⟨z, hz⟩ : ∃ z, waysSum ps 15 = z := ⟨_, rfl⟩
    rw [hs] at h2 h4 h5 ⊢
    rw [hz] at h1 h3 ⊢
    clear hs hz
    go_enter Try.func29, Try.ntmps29
    go_wp2_with fail
    refine (gives_is hp (implPicture_any ps _ _ h)).mono ?_
    rintro e w1 ⟨rfl, b1⟩
    go_wp2_with fail
    refine (corI_lit' h1 (h.kept b1)).mono ?_
    rintro e w2 ⟨rfl, b2⟩
    have bb := below_step b1 b2
    go_wp2_with fail
    refine (sidI_lit' h2 (h.kept bb)).mono ?_
    rintro e w3 ⟨rfl, b3⟩
    have bb3 := below_step bb b3
    clear h1 h2 hp
    go_wp2
    go_ret2
    exact ⟨rfl, bb3⟩
/-! ### corners by the cells around them -/
theorem pop8_is : ∀ n : Nat, n < 16 → wrap64 (Lib.pop8 (n : Int)) = (popc n : Int) := by decide +kernel
set_option maxRecDepth 100000 in
theorem ones_any (n : Nat) (hn : n < 16) (w : World) : Calls Try.prog 95 #[.int .u8 n] w (Gives (.int .i64 (popc n)) w) := by
  rw [← pop8_is n hn]
  go_enter Try.func95, Try.ntmps95
  have h0 : (0 : Int) ≤ (n : Int) := Int.natCast_nonneg _
  have h1 : (n : Int) < 256 := by omega
  have hs : n < Lib.pop8tab.size := by rw [Lib.pop8tab_size]; omega
  go_wp2
  go_ret
  refine ⟨?_, Below.refl _ _⟩
  have e : Lib.pop8 (n : Int) = ((Lib.pop8tab[n]'hs).toNat : Int) := by
    unfold Lib.pop8
    rw [Int.toNat_natCast, getElem?_pos Lib.pop8tab n hs]; rfl
  rw [e]; rfl
theorem cells_any' (n : Nat) (hn : n < 16) (w : World) : Calls Try.prog 66 #[.int .u8 n] w (Gives (.int .i64 (popc n)) w) := by
  go_enter Try.func66, Try.ntmps66
  go_wp2_with fail
  refine (ones_any n hn _).mono ?_
  rintro e w1 ⟨rfl, b1⟩
  go_wp2
  go_ret
  exact ⟨rfl, b1⟩
theorem cells_lit {q : Int} {n : Nat} (hq : q = (n : Int)) (hn : n < 16) {k : Int} (hk : (popc n : Int) = k) (w : World) : Calls Try.prog 66 #[.int .u8 q] w (Gives (.int .i64 k) w) := by
  subst hq hk; exact cells_any' n hn w
theorem pop_one : ∀ n : Nat, n < 16 → popc n = 1 → ¬ (n = 9 ∨ n = 6) ∧ ¬ popc n = 3 := by decide
theorem pop_cross (n : Nat) (h : n = 9 ∨ n = 6) : ¬ popc n = 3 ∧ popc n = 2 := by rcases h with rfl | rfl <;> decide
theorem gOf {w w' : World} (hb : Below w.heap.size w w') : w.grownBy w' none := ⟨hb.os, hb.tape, hb.output, hb.size, fun k hk _ => hb.block k hk⟩
set_option maxRecDepth 100000 in
set_option maxHeartbeats 1600000 in
theorem implQuads_any (ps : List Sp) (v : Value) (w : World) (h : Reads w w.heap.size v ps) : Calls Try.prog 33 #[v] w (GivesQuad (quadA ps) (quadB ps) (quadC ps) (picB ps) w) := by
  rcases hp : picB ps with _ | _
  · obtain ⟨e1, e2, e3⟩ := quads_no hp
    rw [e1, e2, e3]
    go_enter Try.func33, Try.ntmps33
    go_wp2_with fail
    refine (gives_is hp (implPicture_any ps _ _ h)).mono ?_
    rintro e w1 ⟨rfl, b1⟩
    go_wp2
    refine bodyPost_ret (v := .tuple #[.int .i64 (-1), .int .i64 (-1), .int .i64 (-1), .bool false]) (by simp [results, Try.results33, go_sem]) rfl ⟨rfl, b1⟩
  · have hR := Lib.hid (show quadA ps = (((cornM ps).filter fun v => decide (popc (qcode (qcL ps) v) = 1)).length : Nat) ∧ quadB ps = (((cornM ps).filter fun v => decide (qcode (qcL ps) v = 9 ∨ qcode (qcL ps) v = 6)).length : Nat) ∧ quadC ps = (((cornM ps).filter fun v => decide (popc (qcode (qcL ps) v) = 3)).length : Nat) by
      rw [oneM, crossM, threeM]
      unfold quadA quadB quadC
      rw [hp]; exact ⟨rfl, rfl, rfl⟩)
    have hpl := (picB_pic hp).1
    have hin := (picB_pic hp).2.1
    have hpc := gives_is hp (implPicture_any ps _ _ h)
    have hml : (cornM ps).length ≤ 240 := by
      have h1 := corners_le ps
      unfold cornersN at h1
      unfold cornM
      omega
    clear hp
    obtain ⟨f1, k1⟩ : ∃ f : Sp → Bool, f = fun v => decide (popc (qcode (qcL ps) v) = 1) := ⟨_, rfl⟩
    obtain ⟨f2, k2⟩ : ∃ f : Sp → Bool, f = fun v => decide (qcode (qcL ps) v = 9 ∨ qcode (qcL ps) v = 6) := ⟨_, rfl⟩
    obtain ⟨f3, k3⟩ : ∃ f : Sp → Bool, f = fun v => decide (popc (qcode (qcL ps) v) = 3) := ⟨_, rfl⟩
    rw [← k1, ← k2, ← k3] at hR
    have hf1 := Lib.hid (show ∀ c, f1 c = decide (popc (qcode (qcL ps) c) = 1) from fun c => by rw [k1])
    have hf2 := Lib.hid (show ∀ c, f2 c = decide (qcode (qcL ps) c = 9 ∨ qcode (qcL ps) c = 6) from fun c => by rw [k2])
    have hf3 := Lib.hid (show ∀ c, f3 c = decide (popc (qcode (qcL ps) c) = 3) from fun c => by rw [k3])
    clear k1 k2 k3
    go_enter Try.func33, Try.ntmps33
    go_wp2_with fail
    refine hpc.mono ?_
    rintro e w1 ⟨rfl, b1⟩
    go_wp2_with fail
    refine (quadsAt_any ps _ _ (h.kept b1) hin hpl).mono ?_
    rintro e w2 ⟨B, rfl, hB, tal, b2⟩
    have bb := below_step b1 b2
    obtain ⟨D, hown, hd⟩ := (tal : Tally _ _ _ _ _ _ _ _ _ _)
    clear b1 b2 hpc h
    go_wp2_with (at_range; refine wpList_range_own _ rfl _ 49 rfl 54 77 spotKeyW.law Try.underlying49 _ B _ D rfl hown ?_; intro w0 hrg0 hg0 hs0)
    go_frame
    have hmem := Lib.hid (tally_corners ps)
    have hnd := Lib.hid (nodup_cornM ps)
    obtain ⟨r, hr⟩ : ∃ r, w2.heap.size = r := ⟨_, rfl⟩
    rw [hr] at hrg0 ⊢
    have hrB : w.heap.size ≤ r := by rw [← hr]; exact bb.size
    have b0 := bb.grown hg0 bb.size (fun j hj => by cases hj)
    have z1 := doneN_start hd (tally_corners ps) f1
    have z2 := doneN_start hd (tally_corners ps) f2
    have z3 := doneN_start hd (tally_corners ps) f3
    have L0 := leftOk_start hd (tally_corners ps)
    have hokK : ∀ a ∈ cornM ps, spotIn a := fun a ha => hd.okl a ((tally_corners ps a).2 ha)
    clear hg0 hs0 bb hr hown
    go_loopw [6, 7, 8] (fun n1 n2 n3 wr => ∃ (left : Lit → Bool) (cnt : Nat), wr.ranges Try.prog 54 (plainElem Try.prog 77) B r ((qcL ps).map Prod.fst).length D left cnt ∧ n1 = .int .i64 (doneN spotLit (cornM ps) left f1 : Nat) ∧ n2 = .int .i64 (doneN spotLit (cornM ps) left f2 : Nat) ∧ n3 = .int .i64 (doneN spotLit (cornM ps) left f3 : Nat) ∧ LeftOk spotLit (cornM ps) left ∧ Below w.heap.size w wr) (fun _ _ _ wr => wr.rangeLeft B r)
    case atStart => exact ⟨_, _, hrg0, ret_lt (by rw [z1]; rfl), ret_lt (by rw [z2]; rfl), ret_lt (by rw [z3]; rfl), L0, b0⟩
    case round =>
      clear hrg0 z1 z2 z3 L0 b0
      obtain ⟨left, cnt, hrg, rfl, rfl, rfl, hL, hbw⟩ := hrel
      go_wp2_with (at_next; refine wpList_next_tally spotKeyW hd hmem.out hL rfl _ rfl Try.underlying77 rfl hrg ?_ ?_; rotate_left; intro c w3 cnt' hcK hlc hwf hrg1 hlt hg1 hs1 hen; rotate_left)
      · intro hl0
        have HE1 := doneN_end (lit := spotLit) (K := cornM ps) hl0 f1
        have HE2 := doneN_end (lit := spotLit) (K := cornM ps) hl0 f2
        have HE3 := doneN_end (lit := spotLit) (K := cornM ps) hl0 f3
        rw [HE1, HE2, HE3]
        clear HE1 HE2 HE3
        go_wp2
        refine bodyPost_ret (v := .tuple #[.int .i64 (((cornM ps).filter f1).length : Nat), .int .i64 (((cornM ps).filter f2).length : Nat), .int .i64 (((cornM ps).filter f3).length : Nat), .bool true]) (by simp [results, Try.results33, go_sem]) rfl ⟨by rw [hR.out.1, hR.out.2.1, hR.out.2.2], hbw⟩
      · have HS1 := doneN_step spotKeyW hnd.out hokK hcK hlc f1
        have HS2 := doneN_step spotKeyW hnd.out hokK hcK hlc f2
        have HS3 := doneN_step spotKeyW hnd.out hokK hcK hlc f3
        rw [hf1.out] at HS1
        rw [hf2.out] at HS2
        rw [hf3.out] at HS3
        have hb1 : doneN spotLit (cornM ps) left f1 ≤ 240 := Nat.le_trans (doneN_le _) hml
        have hb2 : doneN spotLit (cornM ps) left f2 ≤ 240 := Nat.le_trans (doneN_le _) hml
        have hb3 : doneN spotLit (cornM ps) left f3 ≤ 240 := Nat.le_trans (doneN_le _) hml
        have bw3 := hbw.grown hg1 hbw.size (fun j hj => by cases hj; exact hrB)
        have HL := hL.step (spotLit c)
        have HC := Lib.hid (show wr.rangeLeft B r = cnt from hrg.left_eq)
        have hn := qcode_le (qcL ps) c
        have hq : qF (qcL ps) c = (qcode (qcL ps) c : Int) := rfl
        generalize doneN spotLit (cornM ps) left f1 = z1 at *
        generalize doneN spotLit (cornM ps) left f2 = z2 at *
        generalize doneN spotLit (cornM ps) left f3 = z3 at *
        generalize qF (qcL ps) c = q at *
        generalize qcode (qcL ps) c = n at *
        clear hg1 hs1 hL hrg hbw hwf hlc
        by_cases p1 : popc n = 1
        · obtain ⟨x2, x3⟩ := pop_one n (by omega) p1
          have HT1 := Lib.hid (HS1.trans (show _ = z1 + 1 by rw [decide_eq_true p1, if_pos rfl]))
          have HT2 := Lib.hid (HS2.trans (show _ = z2 by rw [decide_eq_false x2]; simp))
          have HT3 := Lib.hid (HS3.trans (show _ = z3 by rw [decide_eq_false x3]; simp))
          have cc := Lib.hid (fun W => cells_lit hq (by omega) (show (popc n : Int) = 1 by rw [p1]; rfl) W)
          clear hq hn p1 x2 x3 HS1 HS2 HS3
          go_wp2_with fail
          refine (cc.out _).mono ?_
          rintro e w4 ⟨rfl, b4⟩
          have hrg2 := hrg1.kept (gOf b4) (by simp) (by simp)
          have bw4 := below_step bw3 b4
          have HM := Lib.hid (show w4.rangeLeft B r < wr.rangeLeft B r by rw [hrg2.left_eq, HC.out]; exact hlt)
          clear hrg1 bw3 b4
          go_wp2
          go_roundw
          case rel => exact ⟨_, cnt', hrg2, by rw [HT1.out]; rfl, by rw [HT2.out], by rw [HT3.out], HL, bw4⟩
          case measure => exact HM.out
        · by_cases p2 : n = 9 ∨ n = 6
          · have x3 := pop_cross n p2
            have HT1 := Lib.hid (HS1.trans (show _ = z1 by rw [decide_eq_false p1]; simp))
            have HT2 := Lib.hid (HS2.trans (show _ = z2 + 1 by rw [decide_eq_true p2, if_pos rfl]))
            have HT3 := Lib.hid (HS3.trans (show _ = z3 by rw [decide_eq_false x3.1]; simp))
            have cc := Lib.hid (fun W => cells_lit hq (by omega) (show (popc n : Int) = 2 by rw [x3.2]; rfl) W)
            clear HS1 HS2 HS3
            rcases p2 with rfl | rfl
            all_goals
              obtain rfl := hq
              clear hn p1 x3
              go_wp2_with fail
              refine (cc.out _).mono ?_
              rintro e w4 ⟨rfl, b4⟩
              have hrg2 := hrg1.kept (gOf b4) (by simp) (by simp)
              have bw4 := below_step bw3 b4
              have HM := Lib.hid (show w4.rangeLeft B r < wr.rangeLeft B r by rw [hrg2.left_eq, HC.out]; exact hlt)
              clear hrg1 bw3 b4
              go_wp2
              go_roundw
              case rel => exact ⟨_, cnt', hrg2, by rw [HT1.out], by rw [HT2.out]; rfl, by rw [HT3.out], HL, bw4⟩
              case measure => exact HM.out
          · have HT1 := Lib.hid (HS1.trans (show _ = z1 by rw [decide_eq_false p1]; simp))
            have HT2 := Lib.hid (HS2.trans (show _ = z2 by rw [decide_eq_false p2]; simp))
            have q9 : (q == 9) = false := by rw [beq_eq_false_iff_ne]; omega
            have q6 : (q == 6) = false := by rw [beq_eq_false_iff_ne]; omega
            by_cases p3 : popc n = 3
            · have HT3 := Lib.hid (HS3.trans (show _ = z3 + 1 by rw [decide_eq_true p3, if_pos rfl]))
              have cc := Lib.hid (fun W => cells_lit hq (by omega) (show (popc n : Int) = 3 by rw [p3]; rfl) W)
              clear hq hn p1 p2 p3 HS1 HS2 HS3
              go_wp2_with fail
              refine (cc.out _).mono ?_
              rintro e w4 ⟨rfl, b4⟩
              have hrg2 := hrg1.kept (gOf b4) (by simp) (by simp)
              have bw4 := below_step bw3 b4
              have HM := Lib.hid (show w4.rangeLeft B r < wr.rangeLeft B r by rw [hrg2.left_eq, HC.out]; exact hlt)
              clear hrg1 bw3 b4
              go_wp2_with fail
              refine (cc.out _).mono ?_
              rintro e w5 ⟨rfl, b5⟩
              have hrg2 := hrg2.kept (gOf b5) (by simp) (by simp)
              have bw4 := below_step bw4 b5
              have HM := Lib.hid (show w5.rangeLeft B r < wr.rangeLeft B r by rw [hrg2.left_eq, HC.out]; exact hlt)
              go_wp2
              go_roundw
              case rel => exact ⟨_, cnt', hrg2, by rw [HT1.out], by rw [HT2.out], by rw [HT3.out]; rfl, HL, bw4⟩
              case measure => exact HM.out
            · have HT3 := Lib.hid (HS3.trans (show _ = z3 by rw [decide_eq_false p3]; simp))
              obtain ⟨K, hK⟩ : ∃ K : Int, (popc n : Int) = K := ⟨_, rfl⟩
              have cc := Lib.hid (fun W => cells_lit hq (by omega) hK W)
              have k1 : (K == 1) = false := by rw [beq_eq_false_iff_ne]; omega
              have k3 : (K == 3) = false := by rw [beq_eq_false_iff_ne]; omega
              clear hq hn p1 p2 p3 hK HS1 HS2 HS3
              go_wp2_with fail
              refine (cc.out _).mono ?_
              rintro e w4 ⟨rfl, b4⟩
              have hrg2 := hrg1.kept (gOf b4) (by simp) (by simp)
              have bw4 := below_step bw3 b4
              have HM := Lib.hid (show w4.rangeLeft B r < wr.rangeLeft B r by rw [hrg2.left_eq, HC.out]; exact hlt)
              clear hrg1 bw3 b4
              go_wp2_with fail
              refine (cc.out _).mono ?_
              rintro e w5 ⟨rfl, b5⟩
              have hrg2 := hrg2.kept (gOf b5) (by simp) (by simp)
              have bw4 := below_step bw4 b5
              have HM := Lib.hid (show w5.rangeLeft B r < wr.rangeLeft B r by rw [hrg2.left_eq, HC.out]; exact hlt)
              go_wp2
              go_roundw
              case rel => exact ⟨_, cnt', hrg2, by rw [HT1.out], by rw [HT2.out], by rw [HT3.out], HL, bw4⟩
              case measure => exact HM.out
end
/-! ### CellQ -/
section
open Go.RowKit Go.Sort

theorem corI_lit {n : Int} {p : List Sp} {v : Value} {w : World} (hn : cornersR p = n) (h : Reads w w.heap.size v p) : Calls Try.prog 14 #[v] w (Gives (.int .i64 n) w) := by
  subst hn; exact implCorners_any p v w h
theorem corS_lit {n : Int} {p : List Sp} {v : Value} {w : World} (hn : cornersR p = n) (h : Reads w w.heap.size v p) : Calls Try.prog 15 #[v] w (Gives (.int .i64 n) w) := by
  subst hn; exact specCorners_any p v w h
theorem borI_lit {n : Int} {p : List Sp} {v : Value} {w : World} (hn : borderR p = n) (h : Reads w w.heap.size v p) : Calls Try.prog 20 #[v] w (Gives (.int .i64 n) w) := by
  subst hn; exact implBorder_any p v w h
theorem borS_lit {n : Int} {p : List Sp} {v : Value} {w : World} (hn : borderR p = n) (h : Reads w w.heap.size v p) : Calls Try.prog 21 #[v] w (Gives (.int .i64 n) w) := by
  subst hn; exact specBorder_any p v w h
theorem sidI_lit {n : Int} {p : List Sp} {v : Value} {w : World} (hn : sidesR p = n) (h : Reads w w.heap.size v p) : Calls Try.prog 26 #[v] w (Gives (.int .i64 n) w) := by
  subst hn; exact implSides_any p v w h
theorem sidS_lit {n : Int} {p : List Sp} {v : Value} {w : World} (hn : sidesR p = n) (h : Reads w w.heap.size v p) : Calls Try.prog 27 #[v] w (Gives (.int .i64 n) w) := by
  subst hn; exact specSides_any p v w h
theorem eulI_lit {n : Int} {b : Bool} {p : List Sp} {v : Value} {w : World} (hn : eulerR p = n) (hb : picB p = b) (h : Reads w w.heap.size v p) : Calls Try.prog 29 #[v] w (GivesN n b w) := by
  subst hn hb; exact implEuler_any p v w h
theorem eulS_lit {n : Int} {b : Bool} {p : List Sp} {v : Value} {w : World} (hn : eulerR p = n) (hb : picB p = b) (h : Reads w w.heap.size v p) : Calls Try.prog 30 #[v] w (GivesN n b w) := by
  subst hn hb; exact specEuler_any p v w h
theorem quaI_lit {a m c : Int} {b : Bool} {p : List Sp} {v : Value} {w : World} (ha : quadA p = a) (hm : quadB p = m) (hc : quadC p = c) (hb : picB p = b) (h : Reads w w.heap.size v p) : Calls Try.prog 33 #[v] w (GivesQuad a m c b w) := by
  subst ha hm hc hb; exact implQuads_any p v w h
theorem quaS_lit {a m c : Int} {b : Bool} {p : List Sp} {v : Value} {w : World} (ha : quadA p = a) (hm : quadB p = m) (hc : quadC p = c) (hb : picB p = b) (h : Reads w w.heap.size v p) : Calls Try.prog 34 #[v] w (GivesQuad a m c b w) := by
  subst ha hm hc hb; exact specQuads_any p v w h
end
end Go.Proofs.Ytbbeinhjkfjipaa
