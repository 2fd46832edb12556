/- The model's squares, and what is left of a picture by one of them: SquareOf, SievedBy. No conditions but those typed. -/
import Derived.Test.YtkiidmdgdjphjaaGreatShrinkT
import Derived.Test.YtkiidmdgdjphjaaGreatPlain
import Derived.Test.YtkiidmdgdjphjaaGreatParts
namespace Go.Proofs.YtkiidmdgdjphjaaGreat
open Go.RowKit Go.Sort

def yesF : Sp → Bool := fun _ => true
theorem yes_row (y : Int) (k : Nat) : rowB yesF 0 y (k + 1) = rowB yesF 0 y k ++ [((k : Int), y)] := by
  rw [rowB_succ, Int.zero_add]; rfl
theorem yes_rows (n j : Nat) : rowsB yesF 0 0 n (j + 1) = rowsB yesF 0 0 n j ++ rowB yesF 0 (j : Int) n := by
  rw [rowsB_succ, Int.zero_add]
theorem yes_len {n j k : Nat} (hn : n ≤ 5) (hj : j ≤ 5) (hk : k ≤ 5) (y : Int) : (rowsB yesF 0 0 n j ++ rowB yesF 0 y k).length ≤ 30 := by
  have h1 := length_rowsB yesF 0 0 n j
  have h2 := length_rowB yesF 0 y k
  have h3 := Nat.mul_le_mul hj hn
  rw [List.length_append]; omega
theorem square_rows {n : Nat} (h : sizeOk (n : Int) = true) : squareR (n : Int) = rowsB yesF 0 0 n n := by
  unfold squareR betw span yesF
  rw [h, if_pos rfl]
  simp only []
  rw [show ((n : Int) - 1 - 0 + 1).toNat = n by omega]
set_option maxRecDepth 100000 in
set_option maxHeartbeats 1600000 in
theorem specSquare_any (s : Int) (w : World) : Calls Tryz.prog 72 #[.int .i64 s] w (GivesOwn (squareR s) w) := by
  rcases h : sizeOk s with _ | _
  · rw [square_no h]
    have h' : ¬ (1 ≤ s ∧ s ≤ 5) := of_decide_eq_false h
    clear h
    by_cases h1 : 0 < s
    · have h5 : ¬ s ≤ 5 := by omega
      clear h'
      go_enter Tryz.func72, Tryz.ntmps72
      go_wp2
      go_rounds 2
      go_ret
      exact ⟨_, rfl, Owns.empty _ _ (Nat.le_refl _), (Below.refl _ _).alloc (Nat.le_refl _) _⟩
    · clear h'
      go_enter Tryz.func72, Tryz.ntmps72
      go_wp2
      go_rounds 2
      go_ret
      exact ⟨_, rfl, Owns.empty _ _ (Nat.le_refl _), (Below.refl _ _).alloc (Nat.le_refl _) _⟩
  · obtain ⟨h1, h2⟩ := size_is h
    obtain ⟨n, rfl⟩ := Int.eq_ofNat_of_zero_le (show 0 ≤ s by omega)
    have HS := Lib.hid (square_rows h)
    clear h
    have hn5 : n ≤ 5 := by omega
    have hd5 : decide ((n : Int) ≤ 5) = true := decide_eq_true h2
    have b0 : Below w.heap.size w (w.alloc (.cells #[] 53)) := (Below.refl _ _).alloc (Nat.le_refl _) _
    go_enter Tryz.func72, Tryz.ntmps72
    go_wp2
    go_loopw [3, 4] (fun o i wr => ∃ j : Nat, i = .int .i64 j ∧ j ≤ n ∧ Owns wr w.heap.size o (rowsB yesF 0 0 n j) ∧ Below w.heap.size w wr) (fun _ i _ => n - (intOf i).toNat)
    case atStart => exact ⟨0, rfl, Nat.zero_le _, Owns.empty _ _ (Nat.le_refl _), b0⟩
    case round =>
      obtain ⟨j, rfl, hj, hown, hbw⟩ := hrel
      by_cases hlt : j < n
      · have hd : decide ((j : Int) < (n : Int)) = true := decide_eq_true (by omega)
        go_wp2
        go_loopw [3, 5] (fun o i wr => ∃ k : Nat, i = .int .i64 k ∧ k ≤ n ∧ Owns wr w.heap.size o (rowsB yesF 0 0 n j ++ rowB yesF 0 (j : Int) k) ∧ Below w.heap.size w wr) (fun _ i _ => n - (intOf i).toNat)
        case atStart => exact ⟨0, rfl, Nat.zero_le _, by rw [rowB_zero, List.append_nil]; exact hown, hbw⟩
        case round =>
          clear hown hbw
          obtain ⟨k, rfl, hk, hown, hbw⟩ := hrel
          have hlen := yes_len hn5 (j := j) (by omega) (show k ≤ 5 by omega) (j : Int)
          have hbs := hbw.size
          by_cases hlk : k < n
          · have hdk : decide ((k : Int) < (n : Int)) = true := decide_eq_true (by omega)
            have HT := Lib.hid (yes_row (j : Int) k)
            have o3 := hown.below (box_below wr #[.int .i64 (k : Int), .int .i64 (j : Int)] 53)
            go_wp2_with (at_builtin; refine wpList_append_spots (qs := [((k : Int), (j : Int))]) o3 (Reads.one (g := wr.heap.size) (by simp [go_sem]) (by simp [go_sem])) (by simp only [List.length_cons, List.length_nil]; omega) (by simp only [World.size_alloc]; omega) rfl (.tmp 21) (.tmp 25) rfl rfl rfl ?_)
            intro v4 w4 o4 g4 hv4
            have bw4 := o3.below_app (hbw.alloc hbs _) (by simp only [World.size_alloc]; omega) g4
            go_wp2
            go_roundw
            case rel => exact ⟨k + 1, by go_num, by omega, by rw [HT.out]; exact o4, bw4⟩
            case measure => simp [intOf]; omega
          · have hdk : decide ((k : Int) < (n : Int)) = false := decide_eq_false (by omega)
            have hkn : k = n := by omega
            have HT := Lib.hid (yes_rows n j)
            rw [hkn, ← HT.out] at hown
            clear hlen hkn
            go_wp2
            go_roundw
            case rel => exact ⟨j + 1, by go_num, by omega, hown, hbw⟩
            case measure => simp [intOf]; omega
      · have hd : decide ((j : Int) < (n : Int)) = false := decide_eq_false (by omega)
        have hjn : j = n := by omega
        rw [hjn, ← HS.out] at hown
        clear hjn
        go_wp2
        go_ret
        exact ⟨_, rfl, hown, hbw⟩
theorem sieve_off {p : List Sp} {s : Int} (h : sizeOk s = false) : sieveOk p s = false ∧ sieveR p s = [] := by
  have e : sieveOk p s = false := by unfold sieveOk; rw [h]; rfl
  exact ⟨e, sieve_no e⟩
set_option maxRecDepth 100000 in
theorem specSieved_any (ps : List Sp) (v : Value) (s : Int) (w : World) (h : Reads w w.heap.size v ps) : Calls Tryz.prog 49 #[v, .int .i64 s] w (Gives2' (sieveR ps s) (sieveOk ps s) w) := by
  obtain ⟨A, c, rfl, hc, hm⟩ := h.slice
  rcases hs : sizeOk s with _ | _
  · obtain ⟨e1, e2⟩ := sieve_off (p := ps) hs
    rw [e1, e2]
    have HQ := Lib.hid (square_no hs)
    clear hs e1 e2
    go_enter Tryz.func49, Tryz.ntmps49
    go_wp2_with fail
    refine (specSquare_any s w).mono ?_
    rintro e w1 ⟨v1, rfl, o1, b1⟩
    rw [HQ.out] at o1
    obtain ⟨A1, c1, rfl, hc1, hm1⟩ := o1.reads.slice
    have hle := b1.size
    go_wp2
    go_ret2
    exact ⟨_, rfl, Owns.empty _ _ hle, b1.alloc hle _⟩
  · obtain ⟨e1, e2⟩ := sieve_is ps s
    rw [← e1, ← e2]
    have hne : 0 < (squareR s).length := by cases hq : squareR s with | nil => exact absurd hq (square_ne hs) | cons _ _ => simp
    have h25 : (squareR s).length ≤ 60 := (picB_pic (picB_square s)).1
    clear hs e1 e2
    go_enter Tryz.func49, Tryz.ntmps49
    go_wp2_with fail
    refine (specSquare_any s w).mono ?_
    rintro e w1 ⟨v1, rfl, o1, b1⟩
    obtain ⟨A1, c1, rfl, hc1, hm1⟩ := o1.reads.slice
    unfold maxLen at hm1
    have hq0 : (((squareR s).length : Int) == 0) = false := by rw [beq_eq_false_iff_ne]; omega
    go_wp2_with fail
    refine (specShrunkGrown_any ps (squareR s) _ _ w1 (h.kept b1) o1.reads).mono ?_
    rintro e w2 ⟨v2, rfl, o2, b2⟩
    go_wp2
    go_ret2
    exact ⟨_, rfl, o2.base b1.size, below_step b1 b2⟩
end Go.Proofs.YtkiidmdgdjphjaaGreat
