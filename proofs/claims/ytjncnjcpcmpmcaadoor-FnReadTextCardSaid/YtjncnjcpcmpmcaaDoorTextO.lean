/- The model's texts of pictures. No conditions but those typed. -/
import Derived.Test.YtjncnjcpcmpmcaaDoorRowsT
namespace Go.Proofs.YtjncnjcpcmpmcaaDoor
open Go.RowKit Go.Sort

theorem joinB_length {c : UInt8} : ∀ {r : List Bs}, (∀ l ∈ r, l.length ≤ 61) → (joinB c r).length ≤ 62 * r.length
  | [], _ => Nat.zero_le _
  | [l], h => by
    have := h l (by simp)
    show l.length ≤ _
    simp; omega
  | l :: m :: r, h => by
    have h1 := h l (by simp)
    have h2 := joinB_length (c := c) (r := m :: r) fun k hk => h k (List.mem_cons_of_mem _ hk)
    rw [joinB_cons c l (by simp), List.length_append, List.length_cons]
    simp only [List.length_cons] at h1 h2 ⊢
    omega
theorem numB_length {n : Int} (h : -100 < n ∧ n < 100) : (numB n).length ≤ 3 := by
  unfold numB
  split
  · have := natB_length 1 n.natAbs (by omega)
    rw [List.length_cons]; omega
  · have := natB_length 1 n.toNat (by omega)
    omega
theorem rowsT_bound {p : List Sp} (h : picB p = true) (h0 : p ≠ []) : (rowsT p).length ≤ 61 ∧ ∀ l ∈ rowsT p, l.length ≤ 61 := by
  obtain ⟨b1, b2⟩ := box_in h h0
  have r := rows_are h h0
  refine ⟨by have := r.many; omega, fun l hl => ?_⟩
  obtain ⟨k, hk⟩ := List.getElem?_of_mem hl
  have := r.long k l hk
  omega
theorem strZ_at {r : List Bs} {k : Nat} {l : Bs} (h : r[k]? = some l) : (strZ r)[k]? = some (strV l) := by unfold strZ; rw [List.getElem?_map, h]; rfl
theorem joinB_take {c : UInt8} {r : List Bs} {k : Nat} {l : Bs} (h : r[k]? = some l) (hk : 0 < k) : joinB c (r.take (k + 1)) = joinB c (r.take k) ++ c :: l := by
  rw [List.take_add_one, h]
  exact joinB_snoc c l (by
    intro e
    have := congrArg List.length e
    have hl := (List.getElem?_eq_some_iff.1 h).1
    rw [List.length_take] at this
    simp only [List.length_nil] at this
    omega)
theorem joinB_one {c : UInt8} {r : List Bs} {l : Bs} (h : r[0]? = some l) : joinB c (r.take (0 + 1)) = l := by
  rw [List.take_add_one, h]; rfl
/-- what is told of a text so far, as the walk adds to it -/
theorem add_lit {P : Program} (l : Bs) (b : UInt8) (h : l.length ≤ 1000000) : ∀ W : World, (Op.stringOp .add (bs l) { data := #[b] }).run P W = .ok (.string (bs (l ++ [b]))) W := fun W => str_add l [b] W (by simp; omega)
theorem add_two {P : Program} (l m : Bs) (h : l.length ≤ 1000000) (k : m.length ≤ 1000000) : ∀ W : World, (Op.stringOp .add (bs l) (bs m)).run P W = .ok (.string (bs (l ++ m))) W := fun W => str_add l m W (by omega)
theorem rowsS_lit {p : List Sp} {v : Value} {w : World} {r : List Bs} (h : Reads w w.heap.size v p) (hr : rowsT p = r) : Calls Tryd.prog 42 #[v] w (GivesStrs r w) := by
  subst hr; exact specRows_any p v w h
set_option maxRecDepth 100000 in
set_option maxHeartbeats 1600000 in
theorem specText_any (ps : List Sp) (v : Value) (w : World) (h : Reads w w.heap.size v ps) : Calls Tryd.prog 13 #[v] w (Gives (strV (textT ps)) w) := by
  rcases hp : picB ps with _ | _
  · rw [textT_no hp]
    go_enter Tryd.func13, Tryd.ntmps13
    go_wp2_with fail
    refine (gives_is hp (specPicture_any ps _ _ h)).mono ?_
    rintro e w1 ⟨rfl, b1⟩
    go_wp2
    go_ret
    exact ⟨rfl, b1⟩
  · by_cases h0 : ps = []
    · subst h0
      rw [textT_nil]
      have cc := Lib.hid (fun W (hW : Reads W W.heap.size v ([] : List Sp)) => boxS_lit hW (show boxOk [] = false by unfold boxOk; simp) (box_no (by unfold boxOk; simp)))
      have hpc := gives_is hp (specPicture_any [] _ _ h)
      clear hp
      go_enter Tryd.func13, Tryd.ntmps13
      go_wp2_with fail
      refine hpc.mono ?_
      rintro e w1 ⟨rfl, b1⟩
      clear hpc
      go_wp2_with fail
      refine (cc.out _ (h.kept b1)).mono ?_
      rintro e w2 ⟨rfl, b2⟩
      have bb := below_step b1 b2
      have hs := bb.size
      have b3 := (bb.alloc hs (.cells #[.int .i64 0, .int .i64 0] 32)).alloc (by simp; omega) (.cells #[.int .i64 0, .int .i64 0] 32)
      go_wp2
      all_goals
        go_ret
        exact ⟨rfl, b3⟩
    · have hk : boxOk ps = true := by unfold boxOk; rw [hp]; simp [h0]
      have eB : boxR ps = boxL ps := by unfold boxR; rw [hk]; rfl
      obtain ⟨k1, k2⟩ := box_in hp h0
      obtain ⟨r1, r2⟩ := rowsT_bound hp h0
      rw [textT_yes hp h0]
      have hpc := gives_is hp (specPicture_any ps _ _ h)
      obtain ⟨R, hR⟩ : ∃ R, rowsT ps = R := ⟨_, rfl⟩
      rw [hR] at r1 r2 ⊢
      have CR := Lib.hid (fun W (hW : Reads W W.heap.size v ps) => rowsS_lit hW hR)
      have CB := Lib.hid (fun W (hW : Reads W W.heap.size v ps) => boxS_lit hW hk eB)
      clear hR eB hk
      generalize boxL ps = B at *
      obtain ⟨⟨lx, ly⟩, ⟨hx, hy⟩⟩ := B
      simp only at k1 k2 CB ⊢
      clear hp
      have CX := Lib.hid (fun W => specNumber_any lx (by omega) W)
      have CY := Lib.hid (fun W => specNumber_any ly (by omega) W)
      have lX := numB_length (n := lx) (by omega)
      have lY := numB_length (n := ly) (by omega)
      generalize numB lx = X at *
      generalize numB ly = Y at *
      obtain ⟨P1, hP1⟩ : ∃ l, X ++ [44] = l := ⟨_, rfl⟩
      obtain ⟨P2, hP2⟩ : ∃ l, P1 ++ Y = l := ⟨_, rfl⟩
      obtain ⟨P3, hP3⟩ : ∃ l, P2 ++ [58] = l := ⟨_, rfl⟩
      have l1 : P1.length ≤ 4 := by rw [← hP1]; simp; omega
      have l2 : P2.length ≤ 7 := by rw [← hP2]; simp; omega
      have l3 : P3.length ≤ 8 := by rw [← hP3]; simp; omega
      have a1 := add_lit (P := Tryd.prog) X 44 (by omega)
      have a2 := add_two (P := Tryd.prog) P1 Y (by omega) (by omega)
      have a3 := add_lit (P := Tryd.prog) P2 58 (by omega)
      rw [hP1] at a1
      rw [hP2] at a2
      rw [hP3] at a3
      have HT := Lib.hid (show X ++ 44 :: (Y ++ 58 :: joinB 47 R) = P3 ++ joinB 47 R by rw [← hP3, ← hP2, ← hP1]; simp)
      rw [HT.out]
      clear hP1 hP2 hP3 HT
      go_enter Tryd.func13, Tryd.ntmps13
      go_wp2_with fail
      refine hpc.mono ?_
      rintro e w1 ⟨rfl, b1⟩
      clear hpc
      go_wp2_with fail
      refine (CB.out _ (h.kept b1)).mono ?_
      rintro e w2 ⟨rfl, b2⟩
      simp only
      have bb := below_step b1 b2
      have hs := bb.size
      have q1 := first_block w2 (.cells #[.int .i64 lx, .int .i64 ly] 32) (.cells #[.int .i64 hx, .int .i64 hy] 32)
      obtain ⟨c0, c1⟩ := cells_of_row q1
      have bb := (bb.alloc hs (.cells #[.int .i64 lx, .int .i64 ly] 32)).alloc (by simp; omega) (.cells #[.int .i64 hx, .int .i64 hy] 32)
      clear b1 b2 q1
      go_wp2
      generalize ((w2.alloc (.cells #[.int .i64 lx, .int .i64 ly] 32)).alloc (.cells #[.int .i64 hx, .int .i64 hy] 32)) = W at *
      obtain ⟨G, hG⟩ : ∃ G, w2.heap.size = G := ⟨_, rfl⟩
      rw [hG] at c0 c1 ⊢
      have hGW : G < W.drew.heap.size := World.block_lt_of_cell? _ _ c0
      have bb := bb.drew
      clear hG hs
      go_region_held3 (fun w' => w'.cell? ⟨G, 0, none⟩ = some (.int .i64 lx) ∧ w'.cell? ⟨G, 1, none⟩ = some (.int .i64 ly)) (with_reducible exact ⟨c0, c1⟩)
        (first
          | (go_at_call 41; (with_reducible refine (CX.out _).mono ?_); rintro e w3 ⟨rfl, hb⟩; have c0 := (hb.cell (p := ⟨G, 0, none⟩) hGW).trans c0; have c1 := (hb.cell (p := ⟨G, 1, none⟩) hGW).trans c1; have bb := below_step bb hb; have hGW := Nat.lt_of_lt_of_le hGW hb.size; clear hb)
          | (go_at_call 41; (with_reducible refine (CY.out _).mono ?_); rintro e w4 ⟨rfl, hb⟩; have c0 := (hb.cell (p := ⟨G, 0, none⟩) hGW).trans c0; have c1 := (hb.cell (p := ⟨G, 1, none⟩) hGW).trans c1; have bb := below_step bb hb; have hGW := Nat.lt_of_lt_of_le hGW hb.size; clear hb))
      go_wp2_with fail
      refine (CR.out _ (h.kept bb)).mono ?_
      rintro e w5 ⟨vR, rfl, oR, b5⟩
      have bb := below_step bb b5
      obtain ⟨A, c, rfl, hc, hm, hg⟩ := oR.shape
      have hg' := Lib.hid hg
      rw [strZ_len] at hc hg ⊢
      have hbd : ∀ k, (joinB 47 (R.take k)).length ≤ 62 * 61 := fun k => by
        have h1 := joinB_length (c := 47) (r := R.take k) fun l hl => r2 l (List.mem_of_mem_take hl)
        have h2 := List.length_take_le k R
        rw [List.length_take] at h1
        omega
      have HJ := Lib.hid (fun (k : Nat) (l : Bs) (h : R[k]? = some l) (hk : 0 < k) => joinB_take (c := 47) h hk)
      have HJ0 := Lib.hid (fun (l : Bs) (h : R[0]? = some l) => joinB_one (c := 47) h)
      have own := Lib.hid oR
      clear oR a1 a2 a3 l1 l2 lX lY hm hc b5 c0 c1
      go_wp2
      go_loopw [6, 8] (fun t i wr => ∃ k : Nat, k ≤ R.length ∧ i = .int .i64 (k : Int) ∧ t = .string (bs (P3 ++ joinB 47 (R.take k))) ∧ Below w5.heap.size w5 wr) (fun _ i _ => R.length - (intOf i).toNat)
      case atStart => exact ⟨0, Nat.zero_le _, rfl, by rw [List.take_zero]; show _ = Value.string (bs (P3 ++ [])); rw [List.append_nil], Below.refl _ _⟩
      case round =>
        obtain ⟨k, hk, rfl, rfl, hb⟩ := hrel
        by_cases hlt : k < R.length
        · have hd : decide ((k : Int) < (R.length : Int)) = true := decide_eq_true (by omega)
          obtain ⟨l, hl⟩ : ∃ l, R[k]? = some l := ⟨_, List.getElem?_eq_getElem hlt⟩
          obtain ⟨g, rfl, hg1, hg2⟩ := hg (by omega)
          have hce : wr.cell? ⟨g, k, none⟩ = some (strV l) := ((own.out.below hb).cell (by rw [strZ_len]; exact hlt)).trans (strZ_at hl)
          have hll := r2 l (List.mem_of_getElem? hl)
          have hb0 := hbd k
          have i0 : (0 : Int) ≤ (k : Int) := Int.natCast_nonneg _
          have i1 : (k : Int) < (R.length : Int) := by omega
          by_cases h1 : k = 0
          · subst h1
            have HE := Lib.hid (HJ0.out l hl)
            have e0 : P3 ++ joinB 47 (R.take 0) = P3 := by rw [List.take_zero]; exact List.append_nil _
            rw [e0]
            have ha := add_two (P := Tryd.prog) P3 l (by omega) (by omega)
            clear hl hb0 e0
            go_wp2
            go_roundw
            case rel => exact ⟨1, by omega, rfl, by rw [HE.out], hb⟩
            case measure => simp [intOf]; omega
          · have HE := Lib.hid (HJ.out k l hl (by omega))
            have hd2 : decide ((0 : Int) < (k : Int)) = true := decide_eq_true (by omega)
            have i2 : (0 : Int) < (k : Int) := by omega
            obtain ⟨T, hT⟩ : ∃ T, P3 ++ joinB 47 (R.take k) = T := ⟨_, rfl⟩
            have lT : T.length ≤ 4000 := by rw [← hT, List.length_append]; omega
            have HT := Lib.hid hT
            rw [hT]
            clear hT
            obtain ⟨T1, hT1⟩ : ∃ t, T ++ [47] = t := ⟨_, rfl⟩
            have lT1 : T1.length ≤ 4001 := by rw [← hT1]; simp; omega
            have ha := add_lit (P := Tryd.prog) T 47 (by omega)
            have ha2 := add_two (P := Tryd.prog) T1 l (by omega) (by omega)
            rw [hT1] at ha
            have HT1 := Lib.hid hT1
            clear hl hb0 hT1
            go_wp2
            go_roundw
            case rel => exact ⟨k + 1, by omega, by go_num, by rw [HE.out, ← HT1.out, ← HT.out]; simp, hb⟩
            case measure => simp [intOf]; omega
        · have hd : decide ((k : Int) < (R.length : Int)) = false := decide_eq_false (by omega)
          obtain rfl : k = R.length := by omega
          have e : R.take R.length = R := List.take_length
          rw [e]
          go_wp2
          go_ret
          exact ⟨rfl, below_step bb hb⟩
end Go.Proofs.YtjncnjcpcmpmcaaDoor
