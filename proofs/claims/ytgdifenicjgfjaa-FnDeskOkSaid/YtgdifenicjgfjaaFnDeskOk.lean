/-
  Proved: the law of DeskOk (FnDeskOk) returns true for every code, and the code reads afterwards as it read before. No conditions.
-/
import Derived.Test.YtgdifenicjgfjaaDrawM
import Derived.Test.YtgdifenicjgfjaaDeskG
import Derived.Test.YtgdifenicjgfjaaSpots
namespace Go.Proofs.Ytgdifenicjgfjaa.fnDeskOk
open Go.ChangeShapes Go.WideShapes Go.ChangeAt Go.RowKit

set_option maxHeartbeats 1600000 in
theorem draw (A : Option Addr) (n c : Nat) (w : World) (hb : Bytes w w.heap.size A n) (hn : n ≤ c) (hc : c ≤ 9223372036854775807) :
    Calls Try.prog 7 #[.slice A n c] w fun e w' => ∃ v d lo hi, e = .returned v ∧ DeskO w' lo hi v d ∧ Below w.heap.size w w' := by
  obtain ⟨W, hW⟩ : ∃ W, W = w.alloc (.cells #[.slice none 0 0, .slice none 0 0] 26) := ⟨_, rfl⟩
  have rW : W.heap[w.heap.size]? = some (.cells #[.slice none 0 0, .slice none 0 0] 26 (0, 0)) := by rw [hW]; exact heap_alloc_new w _
  have bx : Below w.heap.size w W := by rw [hW]; exact box_below _ _ _
  have sx : w.heap.size < W.heap.size := by rw [hW]; simp
  have hbW : Bytes W W.heap.size A n := (hb.below bx).more (Nat.le_of_lt sx)
  go_enter Try.func7, Try.ntmps7
  go_wp2_with (first | (rw [← hW]; clear hW) | fail)
  refine (open_any A n c _ hbW hn hc).mono ?_
  rintro e w1 ⟨n', rfl, r1, b1⟩
  go_wp2_with fail
  refine (desk_any _ n' c 0 A 2 _ r1 (by omega) (by omega) (by omega)).mono ?_
  rintro e w2 ⟨v, d, q, lo, hi, rfl, D, _, _, g2⟩
  have bW : Below W.heap.size W w2 := Below.of_grown b1 g2 (Nat.le_refl _)
  have s1 := b1.size
  have oD := D.own.o
  have hge := D.ge
  have r2 := (bW.block w.heap.size sx).trans rW
  clear D g2 r1 b1 hbW hb
  obtain ⟨n2, p2, e2, rn, rp⟩ := oD.rd
  subst e2
  obtain ⟨A2, c2, rfl, _, _⟩ := rn.slice
  obtain ⟨P2, k2, rfl, _, _⟩ := rp.slice
  clear rn rp
  obtain ⟨d20, d21⟩ := cells_of_row r2
  have f20 := frozen_of_row w2 _ 0 _ _ r2
  have f21 := frozen_of_row w2 _ 1 _ _ r2
  have oF : DeskO ((w2.setCell ⟨w.heap.size, 0, none⟩ (.slice A2 d.1.length c2)).setCell ⟨w.heap.size, 1, none⟩ (.slice P2 d.2.length k2)) lo hi (.agg #[.slice A2 d.1.length c2, .slice P2 d.2.length k2]) d := oD.keptBy (by simp [World.setCell]) (fun q h1 _ _ => set2_other (by omega))
  have bF := ((below_step bx bW).setCell (p := ⟨w.heap.size, 0, none⟩) (Nat.le_refl _) (.slice A2 d.1.length c2)).setCell (p := ⟨w.heap.size, 1, none⟩) (Nat.le_refl _) (.slice P2 d.2.length k2)
  go_wp2
  exact bodyPost_ret (v := .agg #[.slice A2 d.1.length c2, .slice P2 d.2.length k2]) (by simp [results, Try.results7, go_sem, *]) rfl ⟨_, d, lo, hi, rfl, oF, bF⟩
theorem nows {w : World} {n : Value} {d : List Sp} (h : Reads w w.heap.size n d) : DeskR w w.heap.size (.agg #[n, .slice none 0 0]) (d, []) :=
  ⟨_, _, rfl, h, ⟨none, 0, [], rfl, Nat.le_refl _, by simp [maxLen], rfl, fun h => absurd h (by simp), fun k p h => by cases h⟩⟩
theorem far_desk (w : World) : DeskR (w.alloc (.cells #[.int .i64 31, .int .i64 0] 30)) (w.alloc (.cells #[.int .i64 31, .int .i64 0] 30)).heap.size (.agg #[.slice (some ⟨w.heap.size, 0, none⟩) 1 1, .slice none 0 0]) ([(31, 0)], []) :=
  nows (Owns.reads (World.ownsRow_lit w #[.int .i64 31, .int .i64 0] 1 (Nat.le_refl _) (by simp [maxLen]) rfl))
set_option maxRecDepth 100000 in
set_option maxHeartbeats 1600000 in
theorem walk (A : Option Addr) (n c : Nat) (w : World) (hb : Bytes w w.heap.size A n) (hn : n ≤ c) (hc : c ≤ 9223372036854775807) :
    Calls Try.prog 3 #[.slice A n c] w (Gives (.bool true) w) := by
  by_cases hbig : 1048576 < n
  · go_enter Try.func3, Try.ntmps3
    go_wp2
    go_ret
    exact ⟨rfl, Below.refl _ _⟩
  · go_enter Try.func3, Try.ntmps3
    go_wp2_with fail
    refine (draw A n c _ hb hn hc).mono ?_
    rintro e w1 ⟨v, d, lo, hi, rfl, o1, b1⟩
    obtain ⟨nx, px, ex, rnx, rpx⟩ := (o1).rd
    subst ex
    obtain ⟨A2, c2, rfl, _, _⟩ := rnx.slice
    obtain ⟨P2, d2, rfl, _, _⟩ := rpx.slice
    clear rnx rpx
    obtain ⟨W2, hW2⟩ : ∃ W, W = (w1).alloc (.cells #[.slice A2 (d).1.length c2, .slice P2 (d).2.length d2] 26) := ⟨_, rfl⟩
    have bx2 : Below (w1).heap.size w1 W2 := by rw [hW2]; exact box_below _ _ _
    have r2 : (W2).heap[(w1).heap.size]? = some (.cells #[.slice A2 (d).1.length c2, .slice P2 (d).2.length d2] 26 (0, 0)) := by rw [hW2]; exact heap_alloc_new _ _
    have s2 : (w1).heap.size + 1 = (W2).heap.size := by rw [hW2]; simp
    have o2 := (o1).below bx2
    have bb := below_step b1 bx2
    obtain ⟨q0, q1⟩ := cells_of_row r2
    have hG : w1.heap.size < W2.heap.size := by omega
    clear o1 b1 bx2 hb hn hc r2 s2
    rcases hk : deskB d with _ | _
    all_goals
      have HK := Lib.hid hk
      clear hk
      go_wp2_with (first | (rw [← hW2]; clear hW2) | fail)
      refine (dokI_is HK.out o2.rd).mono ?_
      rintro e w3 ⟨rfl, b3⟩
      have bb := below_step bb b3
      have o2 := o2.below b3
      have q0 := (b3.cell (p := ⟨w1.heap.size, 0, none⟩) hG).trans q0
      have q1 := (b3.cell (p := ⟨w1.heap.size, 1, none⟩) hG).trans q1
      have hG := Nat.lt_of_lt_of_le hG b3.size
      clear b3
      go_wp2_with fail
      refine (dokS_is HK.out o2.rd).mono ?_
      rintro e w4 ⟨rfl, b4⟩
      have bb := below_step bb b4
      have o2 := o2.below b4
      have q0 := (b4.cell (p := ⟨w1.heap.size, 0, none⟩) hG).trans q0
      have q1 := (b4.cell (p := ⟨w1.heap.size, 1, none⟩) hG).trans q1
      have hG := Nat.lt_of_lt_of_le hG b4.size
      clear b4
    · obtain ⟨X, hX⟩ : ∃ X, X = (w4).alloc (.cells #[.int .i64 31, .int .i64 0] 30) := ⟨_, rfl⟩
      have bX : Below (w4).heap.size w4 X := by rw [hX]; exact box_below _ _ _
      have rX : DeskR X X.heap.size (.agg #[.slice (some ⟨(w4).heap.size, 0, none⟩) 1 1, .slice none 0 0]) ([(31, 0)], []) := by rw [hX]; exact far_desk _
      have bb := below_step (bb) bX
      clear bX
      go_wp2_with (first | (rw [← hX]; clear hX) | fail)
      refine (dokI_is (b := false) (by decide) rX).mono ?_
      rintro e w8 ⟨rfl, b8⟩
      have bb := below_step bb b8
      go_wp2_with fail
      refine (alive_any _).mono ?_
      rintro e w9 ⟨rfl, b9⟩
      have bb := below_step bb b9
      go_wp2
      go_ret
      exact ⟨rfl, bb⟩
    · obtain ⟨n5, p5, e5, rn5, rp5⟩ := o2.rd
      cases e5
      have hp : deskB (d.1, ([] : List (List Sp))) = true := deskB_iff.2 ⟨(deskB_iff.1 HK.out).now, by simp, fun q hq => by cases hq⟩
      go_wp2_with fail
      refine (dokI_is hp (nows rn5)).mono ?_
      rintro e w5 ⟨rfl, b5⟩
      have bb := below_step bb b5
      clear hp
      obtain ⟨X, hX⟩ : ∃ X, X = (w5).alloc (.cells #[.int .i64 31, .int .i64 0] 30) := ⟨_, rfl⟩
      have bX : Below (w5).heap.size w5 X := by rw [hX]; exact box_below _ _ _
      have rX : DeskR X X.heap.size (.agg #[.slice (some ⟨(w5).heap.size, 0, none⟩) 1 1, .slice none 0 0]) ([(31, 0)], []) := by rw [hX]; exact far_desk _
      have bb := below_step (bb) bX
      clear bX
      go_wp2_with (first | (rw [← hX]; clear hX) | fail)
      refine (dokI_is (b := false) (by decide) rX).mono ?_
      rintro e w8 ⟨rfl, b8⟩
      have bb := below_step bb b8
      go_wp2_with fail
      refine (alive_any _).mono ?_
      rintro e w9 ⟨rfl, b9⟩
      have bb := below_step bb b9
      go_wp2
      go_ret
      exact ⟨rfl, bb⟩
set_option maxRecDepth 100000 in
theorem lifted (os : Os) (started : os.Started) (H : Type) (enc : TypeId × Value → H) :
    ReturnsInHanded {} Try.checked os 3 .any (Rows.fnDeskOkSpec.pre6 enc Try.prog Try.f3 Rows.fnDeskOkRow.domain false) (Rows.fnDeskOkSpec.post enc Try.prog Try.f3 false true false false) := by
  refine returnsInHanded_of_change (C := Try.checked) own started (by kernel_rfl) Try.func3
    (ChangeSpec.witness6 (enc := enc) (C := Try.checked) false ⟨#[], #[.slice none 0 0], []⟩ 8 (by kernel_rfl) (by kernel_rfl) (by kernel_rfl) (by kernel_rfl)) ?_
  intro W base args ds gs before hval0 hW _ _
  have hval : ∀ (j : Nat) t v, Try.f3.params[j]? = some t → args[j]? = some v → Value.okWide Try.prog W .any base t v := hval0
  have hW' := hW
  obtain ⟨p, q, hA0, hV, rfl, _, _⟩ := hW
  have hA : DataW.TrodAll enc Try.prog W 0 (fun _ => true) true Try.f3.params.toList args.toList ds p := hA0
  rw [Try.params3] at hA hval
  obtain ⟨v0, d0, rfl, rfl, h0⟩ := trodAll_one hA
  obtain ⟨rfl, rfl⟩ := trodVars_none hV
  clear hA0 hval0
  simp only [List.append_nil] at hW'
  have hlt : ∀ x ∈ p, x.block < W.heap.size := fun x hx => by simpa using hW'.lt x hx
  have r0 := open_bytes (hval 0 22 v0 rfl rfl) h0 hlt
  obtain ⟨⟨bA, bn, bc⟩, rfl, rb, rn, rc⟩ := r0
  simp only at rb rn rc
  refine (walk bA bn bc W rb rn rc).mono fun e W' hg => ?_
  obtain ⟨he, hb⟩ := hg
  subst he
  exact ⟨_, rfl, _, _, _, [], p, [], hW', trodAll_mk1 (shut_bool Try.underlying4 _), trodAll_mk1 (kept_arg (by kernel_rfl) (of_decide_eq_true (by kernel_rfl)) h0 hb hlt), rfl, hb.frame _, fun h => by cases h⟩

theorem holds : Rows.FnDeskOkSaid :=
  OpenClaim.holds_of_wide 3 Try.f3 rfl rfl rfl rfl rfl rfl rfl ⟨rfl, rfl, rfl, rfl, rfl⟩ rfl rfl rfl rfl rfl (by kernel_rfl) Try.func3 (by kernel_rfl)
    (of_decide_eq_true (by kernel_rfl)) (by unfold Func.isWrapper; first | (rw [if_pos (by decide +kernel)]; kernel_rfl) | (rw [if_neg (by decide +kernel)]; exact ⟨rfl, rfl⟩))
    (fun os started H enc _ => lifted os started H enc)
end Go.Proofs.Ytgdifenicjgfjaa.fnDeskOk
