/- What the draws of chapter 7 hand back. No conditions but those typed. -/
import Derived.Test.YtkiidmdgdjphjaaGreatSpots
import Derived.Test.YtkiidmdgdjphjaaGreatUnionS
namespace Go.Proofs.YtkiidmdgdjphjaaGreat
open Go.RowKit Go.Sort

set_option maxRecDepth 100000 in
set_option maxHeartbeats 3200000 in
theorem ring_any (g n c p : Nat) (A : Option Addr) (N : Int) (w : World) (hr : Rd w g A n c p) (h1 : 0 ≤ N) (h2 : N ≤ 1000) (hp : p ≤ 60000) :
    Calls Tryz.prog 34 #[.pointer (some ⟨g, 0, none⟩), .int .i64 N] w fun e w' => ∃ v ps q, e = .returned v ∧ Inv w w' g n c A v ps q ∧ ps.length ≤ 60 ∧ q ≤ p + 120 := by
  have hg := hr.lt
  go_enter Tryz.func34, Tryz.ntmps34
  go_wp2_with fail
  refine (pick_any g n c p A 2 _ hr (by omega) (by omega) (by omega)).mono ?_
  rintro e w1 ⟨z1, rfl, z1a, z1b, r1, g1⟩
  by_cases hz : z1 = 0
  · subst hz
    go_wp2_with fail
    refine (pick_any g n c (p + 1) A 3 _ r1 (by omega) (by omega) (by omega)).mono ?_
    rintro e w2 ⟨z2, rfl, z2a, z2b, r2, g2⟩
    have g2 := grown_trans g1 g2
    go_wp2_with fail
    refine (pick_any g n c (p + 1 + 1) A 2 _ r2 (by omega) (by omega) (by omega)).mono ?_
    rintro e w3 ⟨z3, rfl, z3a, z3b, r3, g3⟩
    have g3 := grown_trans g2 g3
    obtain ⟨W, hWd⟩ : ∃ W, W = 3 + z2 := ⟨_, rfl⟩
    obtain ⟨T, hTl⟩ : ∃ T, T = 3 + z3 := ⟨_, rfl⟩
    have hW1 : 3 ≤ W := by omega
    have hW2 : W ≤ 5 := by omega
    have hT1 : 3 ≤ T := by omega
    have hT2 : T ≤ 4 := by omega
    have I3 : Inv w (w3.alloc (.cells #[] 53)) g n c A (.slice (some ⟨w3.heap.size, 0, none⟩) 0 0) [] (p + 1 + 1 + 1) :=
      ⟨Owns.empty w3 w.heap.size g3.size, r3.below (box_below _ _ _), grown_below g3 (box_below _ _ _), small_nil⟩
    clear g1 g2 g3 r1 r2 r3 hr
    go_wp2
    rw [← hWd, ← hTl]
    clear hWd hTl
    go_loopw [7, 8] (fun v yy wr => ∃ (y : Int) (ps : List Sp) (q : Nat), yy = .int .i64 y ∧ 0 ≤ y ∧ y ≤ T ∧ Inv w wr g n c A v ps q ∧ (ps.length : Int) ≤ y * 5 ∧ (q : Int) ≤ p + 3 + y * 10) (fun _ yy _ => (T - intOf yy).toNat)
    case atStart => exact ⟨0, [], _, rfl, by omega, by omega, I3, by simp, by omega⟩
    case round =>
      clear I3
      obtain ⟨y, ps, q, rfl, hy1, hy2, I, hl, hq⟩ := hrel
      by_cases hyt : y < T
      · go_wp2
        go_loopw [7, 9] (fun v xx wr => ∃ (x : Int) (ps : List Sp) (q : Nat), xx = .int .i64 x ∧ 0 ≤ x ∧ x ≤ W ∧ Inv w wr g n c A v ps q ∧ (ps.length : Int) ≤ y * 5 + x ∧ (q : Int) ≤ p + 3 + y * 10 + x * 2) (fun _ xx _ => (W - intOf xx).toNat)
        case atStart => exact ⟨0, ps, q, rfl, by omega, by omega, I, by omega, by omega⟩
        case round =>
          clear I hl hq
          obtain ⟨x, ps, q, rfl, hx1, hx2, I, hl, hq⟩ := hrel
          by_cases hxt : x < W
          · have hyy : y * 10 ≤ 40 := by omega
            by_cases e1 : x = 0
            · have e1b : (x == 0) = true := by rw [beq_iff_eq]; exact e1
              clear e1
              go_wp2_with fail
              refine (pick_any g n c (q) A 14 _ I.rd (by omega) (by omega) (by omega)).mono ?_
              rintro e wb ⟨zb, rfl, zba, zbb, rb, gb⟩
              have I := I.pick hg rb gb
              clear rb gb
              by_cases hzb : 0 < zb
              · have hdb : decide (0 < zb) = true := decide_eq_true hzb
                have I' := I.alloc (.cells #[.int .i64 x, .int .i64 y] 53)
                have hwz := I'.grown.size
                go_wp2_with (at_builtin; refine wpList_append_spots (qs := [(x, y)]) I'.own (Reads.one (g := wb.heap.size) (by simp [go_sem]) (by simp [go_sem])) (by simp only [List.length_cons, List.length_nil]; omega) hwz rfl (.tmp 58) (.tmp 62) rfl rfl rfl ?_)
                intro v2 w5 o5 g5 _
                have I5 := I'.app hg o5 g5 (small_append I.small (small_one (by omega) (by omega) (by omega) (by omega)))
                clear I I' o5 g5
                go_wp2
                go_roundw
                case rel => exact ⟨x + 1, _, _, rfl, by omega, by omega, I5, by simp only [List.length_append, List.length_cons, List.length_nil]; omega, by omega⟩
                case measure => simp [intOf]; omega
              · have hdb : decide (0 < zb) = false := decide_eq_false hzb
                go_wp2
                go_roundw
                case rel => exact ⟨x + 1, _, _, rfl, by omega, by omega, I, by omega, by omega⟩
                case measure => simp [intOf]; omega
            have e1b : (x == 0) = false := beq_eq_false_iff_ne.2 e1
            by_cases e2 : y = 0
            · have e2b : (y == 0) = true := by rw [beq_iff_eq]; exact e2
              clear e2
              go_wp2_with fail
              refine (pick_any g n c (q) A 14 _ I.rd (by omega) (by omega) (by omega)).mono ?_
              rintro e wb ⟨zb, rfl, zba, zbb, rb, gb⟩
              have I := I.pick hg rb gb
              clear rb gb
              by_cases hzb : 0 < zb
              · have hdb : decide (0 < zb) = true := decide_eq_true hzb
                have I' := I.alloc (.cells #[.int .i64 x, .int .i64 y] 53)
                have hwz := I'.grown.size
                go_wp2_with (at_builtin; refine wpList_append_spots (qs := [(x, y)]) I'.own (Reads.one (g := wb.heap.size) (by simp [go_sem]) (by simp [go_sem])) (by simp only [List.length_cons, List.length_nil]; omega) hwz rfl (.tmp 58) (.tmp 62) rfl rfl rfl ?_)
                intro v2 w5 o5 g5 _
                have I5 := I'.app hg o5 g5 (small_append I.small (small_one (by omega) (by omega) (by omega) (by omega)))
                clear I I' o5 g5
                go_wp2
                go_roundw
                case rel => exact ⟨x + 1, _, _, rfl, by omega, by omega, I5, by simp only [List.length_append, List.length_cons, List.length_nil]; omega, by omega⟩
                case measure => simp [intOf]; omega
              · have hdb : decide (0 < zb) = false := decide_eq_false hzb
                go_wp2
                go_roundw
                case rel => exact ⟨x + 1, _, _, rfl, by omega, by omega, I, by omega, by omega⟩
                case measure => simp [intOf]; omega
            have e2b : (y == 0) = false := beq_eq_false_iff_ne.2 e2
            by_cases e3 : x = W - 1
            · have e3b : (x == W - 1) = true := by rw [beq_iff_eq]; exact e3
              clear e3
              go_wp2_with fail
              refine (pick_any g n c (q) A 14 _ I.rd (by omega) (by omega) (by omega)).mono ?_
              rintro e wb ⟨zb, rfl, zba, zbb, rb, gb⟩
              have I := I.pick hg rb gb
              clear rb gb
              by_cases hzb : 0 < zb
              · have hdb : decide (0 < zb) = true := decide_eq_true hzb
                have I' := I.alloc (.cells #[.int .i64 x, .int .i64 y] 53)
                have hwz := I'.grown.size
                go_wp2_with (at_builtin; refine wpList_append_spots (qs := [(x, y)]) I'.own (Reads.one (g := wb.heap.size) (by simp [go_sem]) (by simp [go_sem])) (by simp only [List.length_cons, List.length_nil]; omega) hwz rfl (.tmp 58) (.tmp 62) rfl rfl rfl ?_)
                intro v2 w5 o5 g5 _
                have I5 := I'.app hg o5 g5 (small_append I.small (small_one (by omega) (by omega) (by omega) (by omega)))
                clear I I' o5 g5
                go_wp2
                go_roundw
                case rel => exact ⟨x + 1, _, _, rfl, by omega, by omega, I5, by simp only [List.length_append, List.length_cons, List.length_nil]; omega, by omega⟩
                case measure => simp [intOf]; omega
              · have hdb : decide (0 < zb) = false := decide_eq_false hzb
                go_wp2
                go_roundw
                case rel => exact ⟨x + 1, _, _, rfl, by omega, by omega, I, by omega, by omega⟩
                case measure => simp [intOf]; omega
            have e3b : (x == W - 1) = false := beq_eq_false_iff_ne.2 e3
            by_cases e4 : y = T - 1
            · have e4b : (y == T - 1) = true := by rw [beq_iff_eq]; exact e4
              clear e4
              go_wp2_with fail
              refine (pick_any g n c (q) A 14 _ I.rd (by omega) (by omega) (by omega)).mono ?_
              rintro e wb ⟨zb, rfl, zba, zbb, rb, gb⟩
              have I := I.pick hg rb gb
              clear rb gb
              by_cases hzb : 0 < zb
              · have hdb : decide (0 < zb) = true := decide_eq_true hzb
                have I' := I.alloc (.cells #[.int .i64 x, .int .i64 y] 53)
                have hwz := I'.grown.size
                go_wp2_with (at_builtin; refine wpList_append_spots (qs := [(x, y)]) I'.own (Reads.one (g := wb.heap.size) (by simp [go_sem]) (by simp [go_sem])) (by simp only [List.length_cons, List.length_nil]; omega) hwz rfl (.tmp 58) (.tmp 62) rfl rfl rfl ?_)
                intro v2 w5 o5 g5 _
                have I5 := I'.app hg o5 g5 (small_append I.small (small_one (by omega) (by omega) (by omega) (by omega)))
                clear I I' o5 g5
                go_wp2
                go_roundw
                case rel => exact ⟨x + 1, _, _, rfl, by omega, by omega, I5, by simp only [List.length_append, List.length_cons, List.length_nil]; omega, by omega⟩
                case measure => simp [intOf]; omega
              · have hdb : decide (0 < zb) = false := decide_eq_false hzb
                go_wp2
                go_roundw
                case rel => exact ⟨x + 1, _, _, rfl, by omega, by omega, I, by omega, by omega⟩
                case measure => simp [intOf]; omega
            have e4b : (y == T - 1) = false := beq_eq_false_iff_ne.2 e4
            go_wp2_with fail
            refine (pick_any g n c q A 6 _ I.rd (by omega) (by omega) (by omega)).mono ?_
            rintro e wa ⟨za, rfl, zaa, zab, ra, ga⟩
            have I := I.pick hg ra ga
            clear ra ga
            by_cases hza : za = 0
            · have e5b : (za == 0) = true := by rw [beq_iff_eq]; exact hza
              clear hza
              go_wp2_with fail
              refine (pick_any g n c (q + 1) A 14 _ I.rd (by omega) (by omega) (by omega)).mono ?_
              rintro e wb ⟨zb, rfl, zba, zbb, rb, gb⟩
              have I := I.pick hg rb gb
              clear rb gb
              by_cases hzb : 0 < zb
              · have hdb : decide (0 < zb) = true := decide_eq_true hzb
                have I' := I.alloc (.cells #[.int .i64 x, .int .i64 y] 53)
                have hwz := I'.grown.size
                go_wp2_with (at_builtin; refine wpList_append_spots (qs := [(x, y)]) I'.own (Reads.one (g := wb.heap.size) (by simp [go_sem]) (by simp [go_sem])) (by simp only [List.length_cons, List.length_nil]; omega) hwz rfl (.tmp 58) (.tmp 62) rfl rfl rfl ?_)
                intro v2 w5 o5 g5 _
                have I5 := I'.app hg o5 g5 (small_append I.small (small_one (by omega) (by omega) (by omega) (by omega)))
                clear I I' o5 g5
                go_wp2
                go_roundw
                case rel => exact ⟨x + 1, _, _, rfl, by omega, by omega, I5, by simp only [List.length_append, List.length_cons, List.length_nil]; omega, by omega⟩
                case measure => simp [intOf]; omega
              · have hdb : decide (0 < zb) = false := decide_eq_false hzb
                go_wp2
                go_roundw
                case rel => exact ⟨x + 1, _, _, rfl, by omega, by omega, I, by omega, by omega⟩
                case measure => simp [intOf]; omega
            · have e5b : (za == 0) = false := beq_eq_false_iff_ne.2 hza
              go_wp2
              go_roundw
              case rel => exact ⟨x + 1, _, _, rfl, by omega, by omega, I, by omega, by omega⟩
              case measure => simp [intOf]; omega
          · obtain rfl : x = W := by omega
            go_wp2
            go_roundw
            case rel => exact ⟨y + 1, _, _, rfl, by omega, by omega, I, by omega, by omega⟩
            case measure => simp [intOf]; omega
      · obtain rfl : y = T := by omega
        go_wp2
        go_ret
        exact ⟨_, rfl, ps, q, I, by omega, by omega⟩
  · have hzb : (z1 == 0) = false := beq_eq_false_iff_ne.2 hz
    go_wp2_with fail
    refine (spots_any g n c (p + 1) A 14 N _ r1 (by omega) (by omega) (by omega) (by omega) (by omega)).mono ?_
    rintro e w6 ⟨v6, ps6, q6, rfl, I, hl6, hq6⟩
    go_wp2
    go_ret
    exact ⟨v6, ps6, q6, rfl, ⟨I.own.base g1.size, I.rd, grown_trans g1 I.grown, I.small⟩, Nat.le_trans hl6 (by decide), by omega⟩

/-- a drawn picture, and whether there are eight neighbours -/
def GivesEight (w : World) (e : Ending) (w' : World) : Prop := ∃ (v : Value) (ps : List Sp) (b : Bool), e = .returned (.tuple #[v, .bool b]) ∧ Owns w' w.heap.size v ps ∧ ps.length ≤ 60 ∧ Below w.heap.size w w'
/-- a drawn picture -/
def GivesDrawn (w : World) (e : Ending) (w' : World) : Prop := ∃ (v : Value) (ps : List Sp), e = .returned v ∧ Owns w' w.heap.size v ps ∧ ps.length ≤ 60 ∧ Below w.heap.size w w'
theorem Owns.notat7 {w : World} {base g : Nat} {v : Value} {ps : List Sp} (h : Owns w base v ps) (hg : g < base) : v.ownBlock = none ∨ v.ownBlock ≠ some g := by
  cases hv : v.ownBlock with
  | none => exact .inl rfl
  | some k => exact .inr fun e => by have := (h.lt k hv).1; injection e with e; omega
/-- two drawn lists, and whether there are eight neighbours -/
def GivesMarked (w : World) (e : Ending) (w' : World) : Prop := ∃ (v u : Value) (ps ms : List Sp) (b : Bool), e = .returned (.tuple #[v, u, .bool b]) ∧ Owns w' w.heap.size v ps ∧ Owns w' w.heap.size u ms ∧ ps.length ≤ 60 ∧ ms.length ≤ 60 ∧ Below w.heap.size w w'
theorem commonL_len (p q : List Sp) (h : p.length ≤ 60) : (commonL p q).length ≤ 60 := by
  unfold commonL
  split
  · exact Nat.le_trans (List.length_filter_le _ _) h
  · simp
end Go.Proofs.YtkiidmdgdjphjaaGreat
