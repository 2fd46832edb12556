/- The program's texts of deeds and journals, written and read. No conditions but those typed: what the listed variables of the library hold ('PowOk', 'ErrOk'). -/
import Derived.Test.YtpdnakiilhohdaaDoorLineI
import Derived.Test.YtpdnakiilhohdaaDoorDeedL
import Derived.Test.YtpdnakiilhohdaaDoorBuild
import Derived.Test.YtpdnakiilhohdaaDoorPicWalk
namespace Go.Proofs.YtpdnakiilhohdaaDoor
open Go.RowKit Go.Sort

theorem cells3_d {w : World} {g : Nat} {a b c : Value} {T : TypeId} (h : w.heap[g]? = some (.cells #[a, b, c] T (0, 0))) : w.cell? ⟨g, 0, none⟩ = some a ∧ w.cell? ⟨g, 1, none⟩ = some b ∧ w.cell? ⟨g, 2, none⟩ = some c := by
  unfold World.cell?
  rw [h]
  exact ⟨rfl, rfl, rfl⟩
theorem spotD_any (k x y : Int) (w : World) : Calls Tryd.prog 35 #[.agg #[.int .i64 k, .int .i64 x, .int .i64 y]] w (Gives (.agg #[.int .i64 x, .int .i64 y]) w) := by
  go_enter Tryd.func35, Tryd.ntmps35
  go_wp2
  refine bodyPost_ret (v := .agg #[.int .i64 x, .int .i64 y]) (by simp [results, Tryd.results35, go_sem]) rfl ⟨rfl, ?_⟩
  exact (box_below w _ _).alloc (by simp) _
theorem swithin_is {x y : Int} {b : Bool} (h : inB x y 99 = b) (w : World) : Calls Tryd.prog 34 #[.agg #[.int .i64 x, .int .i64 y], .int .i64 99] w (Gives (.bool b) w) := by
  subst h; exact spotWithin_any x y 99 w (by decide) (by decide)
/-- what the program asks of a deed -/
theorem deed_named {n : Nat} {x y : Int} (h : n ≤ 8) : deedOk (((n : Int), x), y) = (namedB n x y && inB x y 99) := by
  have h1 : (0 : Int) ≤ (n : Int) ∧ (n : Int) ≤ 8 := by omega
  rw [Bool.eq_iff_iff]
  unfold deedOk namedA namedB in99 inB
  simp only [Bool.and_eq_true, decide_eq_true_eq, List.all_eq_true, Int.toNat_natCast]
  rw [dkNum_is h]
  constructor
  · rintro ⟨⟨_, h2⟩, h3, h4⟩
    refine ⟨?_, by omega⟩
    rcases numsD_cases n with e | e | e <;> rw [e] at h2 ⊢
    · have a1 := h2 x (by simp); have a2 := h2 y (by simp); exact ⟨fun _ => a1, fun _ => a2⟩
    · have a2 := h2 y (by simp); exact ⟨fun h => absurd h (by decide), fun _ => a2⟩
    · exact ⟨fun h => absurd h (by decide), fun h => absurd h (by decide)⟩
  · rintro ⟨⟨h2, h3⟩, h4⟩
    refine ⟨⟨h1, fun z hz => ?_⟩, by omega⟩
    rcases numsD_cases n with e | e | e <;> rw [e] at h2 h3 hz
    · have a1 := h2 (by decide); have a2 := h3 (by decide)
      simp at hz; omega
    · have a2 := h3 (by decide)
      simp at hz; omega
    · simp at hz
set_option maxRecDepth 100000 in
set_option maxHeartbeats 1600000 in
theorem implDeedT_any (k x y : Int) (w : World) (hp : PowOk w) : Calls Tryd.prog 11 #[.agg #[.int .i64 k, .int .i64 x, .int .i64 y]] w (Gives (strV (deedT ((k, x), y))) w) := by
  obtain ⟨W, hW⟩ : ∃ W, W = w.alloc (.cells #[.int .i64 k, .int .i64 x, .int .i64 y] 24) := ⟨_, rfl⟩
  have b0 : Below w.heap.size w W := by rw [hW]; exact box_below _ _ _
  have r0 : W.heap[w.heap.size]? = some (.cells #[.int .i64 k, .int .i64 x, .int .i64 y] 24 (0, 0)) := by rw [hW]; exact heap_alloc_new _ _
  have s0 : w.heap.size < W.heap.size := by rw [hW]; simp
  obtain ⟨k0, k1, k2⟩ := cells3_d r0
  by_cases hk : 0 ≤ k ∧ k ≤ 8
  · obtain ⟨n, rfl⟩ := Int.eq_ofNat_of_zero_le hk.1
    have hn : n ≤ 8 := by omega
    clear hk
    have hd := deed_named (x := x) (y := y) hn
    rcases hnb : namedB n x y with _ | _
    · rw [hnb, Bool.false_and] at hd
      rw [deedT_no hd]
      have HB := Lib.hid hnb
      clear hd hnb
      go_enter Tryd.func11, Tryd.ntmps11
      go_wp2_with (first | (rw [← hW]; clear hW) | fail)
      refine (named_in n x y W hn).mono ?_
      rintro e w1 (⟨h, _⟩ | ⟨_, rfl, b1⟩)
      · rw [HB.out] at h; cases h
      go_wp2
      go_ret
      exact ⟨rfl, below_step b0 b1⟩
    · rw [hnb, Bool.true_and] at hd
      have HB := Lib.hid hnb
      clear hnb
      rcases hin : inB x y 99 with _ | _
      · rw [hin] at hd
        rw [deedT_no hd]
        have HI := Lib.hid hin
        clear hd hin
        go_enter Tryd.func11, Tryd.ntmps11
        go_wp2_with (first | (rw [← hW]; clear hW) | fail)
        refine (named_in n x y W hn).mono ?_
        rintro e w1 (⟨_, g, rfl, _, _, b1⟩ | ⟨h, _⟩)
        rotate_left
        · rw [HB.out] at h; cases h
        have q0 := (b1.cell (p := ⟨w.heap.size, 0, none⟩) s0).trans k0
        have q1 := (b1.cell (p := ⟨w.heap.size, 1, none⟩) s0).trans k1
        have q2 := (b1.cell (p := ⟨w.heap.size, 2, none⟩) s0).trans k2
        have bb := below_step b0 b1
        clear k0 k1 k2 b1
        go_wp2_with fail
        refine (spotD_any (n : Int) x y _).mono ?_
        rintro e w2 ⟨rfl, b2⟩
        go_wp2_with fail
        refine (swithin_is HI.out _).mono ?_
        rintro e w3 ⟨rfl, b3⟩
        go_wp2
        go_ret
        exact ⟨rfl, below_step bb (below_step b2 b3)⟩
      · rw [hin] at hd
        have D := deed_is hd
        rw [deedT_yes hd]
        have hT : ∀ z ∈ ([x, y] : List Int).take (numsD n), -10 ^ 9 < z ∧ z < 10 ^ 9 := fun z hz => by
          have := List.mem_of_mem_take hz
          have a := D.x
          have b := D.y
          simp only at a b
          simp at this
          rcases this with rfl | rfl <;> omega
        have hTl : (([x, y] : List Int).take (numsD n)).length = dkNum n := by
          rw [dkNum_is hn]
          rcases numsD_cases n with e | e | e <;> rw [e] <;> rfl
        have hT2 : dkNum n ≤ 2 := by
          rw [dkNum_is hn]
          rcases numsD_cases n with e | e | e <;> rw [e] <;> decide
        have hW6 := word_len n
        simp only [Int.toNat_natCast]
        have HI := Lib.hid hin
        have HT := Lib.hid hT
        have HX := Lib.hid (dkWord_is hn)
        obtain ⟨L, hL⟩ : ∃ L, ([x, y] : List Int).take (numsD n) = L := ⟨_, rfl⟩
        have hat : ∀ (w' : World) (g : Nat), w'.cell? ⟨g, 0, none⟩ = some (.int .i64 x) → w'.cell? ⟨g, 1, none⟩ = some (.int .i64 y) → NumsAt w' g L := fun w' g h1 h2 => by
          refine ⟨World.block_lt_of_cell? _ _ h1, fun j z hj => ?_⟩
          rw [← hL, List.getElem?_take] at hj
          split at hj
          · match j, hj with
            | 0, hj => cases hj; exact h1
            | 1, hj => cases hj; exact h2
            | j + 2, hj => simp at hj
          · cases hj
        rw [hL] at hTl HT ⊢
        obtain ⟨D2, hD2⟩ : ∃ D2, dkNum n = D2 := ⟨_, rfl⟩
        obtain ⟨S, hS⟩ : ∃ S, dkWordA n = S := ⟨_, rfl⟩
        have hPost := named_in n x y W hn
        unfold NamedIs NamedPost at hPost
        rw [hD2, hS] at hPost
        rw [hD2] at hTl hT2
        rw [hS] at HX
        have HL := Lib.hid hTl
        have HAt := Lib.hid hat
        clear hd hin hT hL hD2 hS D hat hTl
        go_enter Tryd.func11, Tryd.ntmps11
        go_wp2_with (first | (rw [← hW]; clear hW) | fail)
        refine hPost.mono ?_
        rintro e w1 (⟨_, g, rfl, n0, n1, b1⟩ | ⟨h, _⟩)
        rotate_left
        · rw [HB.out] at h; cases h
        clear hPost
        have q0 := (b1.cell (p := ⟨w.heap.size, 0, none⟩) s0).trans k0
        have q1 := (b1.cell (p := ⟨w.heap.size, 1, none⟩) s0).trans k1
        have q2 := (b1.cell (p := ⟨w.heap.size, 2, none⟩) s0).trans k2
        have bb := below_step b0 b1
        have hN := HAt.out w1 g n0 n1
        clear k0 k1 k2 b1 n0 n1 HAt
        go_wp2_with fail
        refine (spotD_any (n : Int) x y _).mono ?_
        rintro e w2 ⟨rfl, b2⟩
        replace bb := below_step bb b2
        replace hN := hN.below b2
        clear b2
        go_wp2_with fail
        refine (swithin_is HI.out _).mono ?_
        rintro e w3 ⟨rfl, b3⟩
        replace bb := below_step bb b3
        replace hN := hN.below b3
        clear b3
        have cI := lineI_any (wordD n) L g 2 w3 hN (by have := HL.out; omega) (by omega) HT.out (hp.below bb)
        rw [← HX.out, HL.out] at cI
        go_wp2_with fail
        refine cI.mono ?_
        rintro e w4 ⟨rfl, b4⟩
        go_wp2
        go_ret
        exact ⟨rfl, below_step bb b4⟩
  · rw [deedT_bad (by omega)]
    go_enter Tryd.func11, Tryd.ntmps11
    go_wp2_with (first | (rw [← hW]; clear hW) | fail)
    refine (named_out k x y W hk).mono ?_
    rintro e w1 ⟨rfl, b1⟩
    go_wp2
    go_ret
    exact ⟨rfl, below_step b0 b1⟩
end Go.Proofs.YtpdnakiilhohdaaDoor
