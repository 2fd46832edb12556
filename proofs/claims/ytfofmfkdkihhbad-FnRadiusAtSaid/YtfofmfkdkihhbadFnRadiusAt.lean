/-
  Proved: the law of RadiusAt (FnRadiusAt) returns true for every code, and the code reads afterwards as it read before. No conditions.
-/
import Derived.Test.YtfofmfkdkihhbadDraws6
import Derived.Test.YtfofmfkdkihhbadRadS
import Derived.Test.YtfofmfkdkihhbadRadJ
import Derived.Test.YtfofmfkdkihhbadHas2
import Derived.Test.YtfofmfkdkihhbadOpen
namespace Go.Proofs.Ytfofmfkdkihhbad.fnRadiusAt
open Go.ChangeShapes Go.WideShapes Go.ChangeAt Go.RowKit

theorem impl_lit {n : Int} {p : List Sp} {v : Value} {x y way : Int} {w : World} (hk : radI p (x, y) way = n) (h : Reads w w.heap.size v p) : Calls Try.prog 11 #[v, .agg #[.int .i64 x, .int .i64 y], .int .i64 way] w (Gives (.int .i64 n) w) := by
  subst hk; exact implRadius_any p v x y way w h
theorem spec_lit {n : Int} {p : List Sp} {v : Value} {x y way : Int} {w : World} (hk : radI p (x, y) way = n) (h : Reads w w.heap.size v p) : Calls Try.prog 12 #[v, .agg #[.int .i64 x, .int .i64 y], .int .i64 way] w (Gives (.int .i64 n) w) := by
  subst hk; exact specRadius_any p v x y way w h
theorem has_lit {b : Bool} {p : List Sp} {v : Value} {x y : Int} {w : World} (hk : hasB p (x, y) = b) (h : Reads w w.heap.size v p) : Calls Try.prog 14 #[v, .agg #[.int .i64 x, .int .i64 y]] w (Gives (.bool b) w) := by
  subst hk; exact implHas_any p v x y w h
theorem out_no {p : List Sp} {a : Sp} {n way z y D : Int} (h : offD z y way = D) (hn : ¬ D = n + 1) : outside p a n way (z, y) = false := by
  unfold outside
  simp only []
  rw [h, decide_eq_false hn, Bool.false_and]
theorem out_is {p : List Sp} {a : Sp} {n way z y D : Int} {b : Bool} (h : offD z y way = D) (hn : D = n + 1) (hb : hasB p (a.1 + z, a.2 + y) = b) : outside p a n way (z, y) = !b := by
  unfold outside
  simp only []
  rw [h, decide_eq_true hn, Bool.true_and, hb]
theorem max4 {x y a b d : Int} (ha : (if x < -x then -x else x) = a) (hb : (if y < -y then -y else y) = b) (hd : (if a < b then b else a) = d) (ts : Array TypeId) (t : TypeId) (w : World) : (Builtin.max_ ts t #[.int .i64 x, .int .i64 (-x), .int .i64 y, .int .i64 (-y)]).run Try.prog w = .ok (.int .i64 d) w := by
  subst ha hb hd
  simp [Builtin.max_, Builtin.max2]
  (repeat' split) <;> omega
structure Is (b : Bool) (P : Prop) : Prop where
  iff : b = true ↔ P
set_option maxRecDepth 100000 in
set_option maxHeartbeats 6400000 in
theorem walk (A : Option Addr) (n c : Nat) (w : World) (hb : Bytes w w.heap.size A n) (hn : n ≤ c) (hc : c ≤ 9223372036854775807) :
    Calls Try.prog 3 #[.slice A n c] w (Gives (.bool true) w) := by
  by_cases hbig : 1048576 < n
  · go_enter Try.func3, Try.ntmps3
    go_wp2
    go_ret
    exact ⟨rfl, Below.refl _ _⟩
  · go_enter Try.func3, Try.ntmps3
    go_wp2_with fail
    refine (drawRadiusAt_any A n c _ hb hn hc).mono ?_
    rintro e w1 ⟨v, ps, ax, ay, way, rfl, op, hl, ⟨hx1, hx2, hy1, hy2⟩, hw, bb⟩
    have b2 := box_below w1 #[.int .i64 ax, .int .i64 ay] 25
    have bb := below_step bb b2
    have op := op.below b2
    have c0 : (w1.alloc (.cells #[.int .i64 ax, .int .i64 ay] 25)).cell? ⟨w1.heap.size, 0, none⟩ = some (.int .i64 ax) := by simp [go_sem]
    have c1 : (w1.alloc (.cells #[.int .i64 ax, .int .i64 ay] 25)).cell? ⟨w1.heap.size, 1, none⟩ = some (.int .i64 ay) := by simp [go_sem]
    have t0 : w1.heap.size < (w1.alloc (.cells #[.int .i64 ax, .int .i64 ay] 25)).heap.size := by simp
    clear b2 hb hn hc
    obtain ⟨Ap, cp, rfl, _, _⟩ := op.reads.slice
    rcases hk : radOk ps (ax, ay) way with _ | _
    · have HN := Lib.hid (rad_no hk)
      clear hk
      go_wp2_with fail
      refine (impl_lit HN.out op.reads).mono ?_
      rintro e w3 ⟨rfl, bn⟩
      have bb := below_step bb bn
      have c0 := (bn.cell (p := ⟨w1.heap.size, 0, none⟩) t0).trans c0
      have c1 := (bn.cell (p := ⟨w1.heap.size, 1, none⟩) t0).trans c1
      have t0 := Nat.lt_of_lt_of_le t0 bn.size
      have op := op.below bn
      clear bn
      go_wp2_with fail
      refine (spec_lit HN.out op.reads).mono ?_
      rintro e w4 ⟨rfl, bn⟩
      have bb := below_step bb bn
      clear c0 c1 bn
      go_wp2_with fail
      refine (alive_any _).mono ?_
      rintro e w5 ⟨rfl, bn⟩
      have bb := below_step bb bn
      go_wp2
      go_ret
      exact ⟨rfl, bb⟩
    · have hR := radOk_iff.1 hk
      have hr := radN_rng ps (ax, ay) way
      have hE := fun h3 => outside_end hR h3
      have hI := fun z y hd => inside_has (z := z) (y := y) hR hd
      have hn1 := rad_yes hk
      have hway := way2_cases hR.pw
      obtain ⟨n, hn⟩ : ∃ n, radN ps (ax, ay) way = n := ⟨_, rfl⟩
      rw [hn] at hr hE hn1
      simp only [hn] at hI
      have HN := Lib.hid hn1
      have HE := Lib.hid hE
      have HI := Lib.hid hI
      obtain ⟨hr0, hr3⟩ := hr
      clear hk hR hn hn1 hE hI
      go_wp2_with fail
      refine (impl_lit HN.out op.reads).mono ?_
      rintro e w3 ⟨rfl, bn⟩
      have bb := below_step bb bn
      have c0 := (bn.cell (p := ⟨w1.heap.size, 0, none⟩) t0).trans c0
      have c1 := (bn.cell (p := ⟨w1.heap.size, 1, none⟩) t0).trans c1
      have t0 := Nat.lt_of_lt_of_le t0 bn.size
      have op := op.below bn
      clear bn
      go_wp2_with fail
      refine (spec_lit HN.out op.reads).mono ?_
      rintro e w4 ⟨rfl, bn⟩
      have bb := below_step bb bn
      have c0 := (bn.cell (p := ⟨w1.heap.size, 0, none⟩) t0).trans c0
      have c1 := (bn.cell (p := ⟨w1.heap.size, 1, none⟩) t0).trans c1
      have t0 := Nat.lt_of_lt_of_le t0 bn.size
      have op := op.below bn
      clear bn
      have hd0 : decide (n < 0) = false := decide_eq_false (by omega)
      have hwn : IntKind.i64.wrap (n + 1) = n + 1 := IntWalk.i64_in _ (by omega)
      obtain ⟨f, hf⟩ : ∃ f, f = outside ps (ax, ay) n way := ⟨_, rfl⟩
      rw [← hf] at HE
      have HFD := Lib.hid hf
      clear hf
      go_wp2
      go_loopw [7, 8] (fun o i wr => ∃ (y : Int) (b : Bool), i = .int .i64 y ∧ o = .bool b ∧ -4 ≤ y ∧ y ≤ 5 ∧ (b = true ↔ Seen f y (-4)) ∧ Below w4.heap.size w4 wr) (fun _ i _ => (5 - intOf i).toNat)
      case atStart => exact ⟨-4, false, rfl, rfl, by omega, by omega, by simp [seen_start], Below.refl _ _⟩
      case round =>
        obtain ⟨y, o, rfl, rfl, hy1', hy2', ho, hbw⟩ := hrel
        have HO := Lib.hid ho
        clear ho
        by_cases hy : y ≤ 4
        · go_wp2
          go_loopw [7, 9] (fun o i wr => ∃ (z : Int) (b : Bool), i = .int .i64 z ∧ o = .bool b ∧ -4 ≤ z ∧ z ≤ 5 ∧ (b = true ↔ Seen f y z) ∧ Below w4.heap.size w4 wr) (fun _ i _ => (5 - intOf i).toNat)
          case atStart => exact ⟨-4, o, rfl, rfl, by omega, by omega, HO.out, hbw⟩
          case round =>
            clear HO hbw
            obtain ⟨z, o, rfl, rfl, hz1, hz2, ho, hbw⟩ := hrel
            have HO := Lib.hid ho
            clear ho
            have hbs := hbw.size
            by_cases hz : z ≤ 4
            · have d0 := (hbw.cell (p := ⟨w1.heap.size, 0, none⟩) t0).trans c0
              have d1 := (hbw.cell (p := ⟨w1.heap.size, 1, none⟩) t0).trans c1
              have e1 : IntKind.i64.wrap (ax + z) = ax + z := IntWalk.i64_in _ (by omega)
              have e2 : IntKind.i64.wrap (ay + y) = ay + y := IntWalk.i64_in _ (by omega)
              have e3 : IntKind.i64.wrap (-z) = -z := IntWalk.i64_in _ (by omega)
              have e4 : IntKind.i64.wrap (-y) = -y := IntWalk.i64_in _ (by omega)
              obtain ⟨Z, hZ⟩ : ∃ Z, (if z < -z then -z else z) = Z := ⟨_, rfl⟩
              obtain ⟨Y, hY⟩ : ∃ Y, (if y < -y then -y else y) = Y := ⟨_, rfl⟩
              have hZ1 : 0 ≤ Z ∧ Z ≤ 4 := by rw [← hZ]; split <;> omega
              have hY1 : 0 ≤ Y ∧ Y ≤ 4 := by rw [← hY]; split <;> omega
              have cs := fun b hb => has_lit (b := b) (x := ax + z) (y := ay + y) (w := wr.alloc (.cells #[.int .i64 (ax + z), .int .i64 (ay + y)] 25)) hb (op.below (hbw.trans ((box_below wr _ _).mono hbs))).reads
              rcases hway with rfl | rfl
              · obtain ⟨D, hDD⟩ : ∃ D, Z + Y = D := ⟨_, rfl⟩
                have hD : offD z y 0 = D := by rw [offD_0, ← hDD, ← hZ, ← hY]; split <;> split <;> omega
                have e5 : IntKind.i64.wrap (Z + Y) = D := by rw [IntWalk.i64_in _ (by omega), hDD]
                have HD := Lib.hid hD
                have HF2 := HFD.out
                have hbe : Below w4.heap.size w4 (wr.alloc (.cells #[.int .i64 (ax + z), .int .i64 (ay + y)] 25)) := hbw.trans ((box_below wr _ _).mono hbs)
                by_cases hn1 : D ≤ n
                · have hhas := HI.out z y (by rw [HD.out]; exact hn1)
                  have hff : f (z, y) = false := by rw [HF2]; exact out_no HD.out (by omega)
                  have HO2 := Lib.hid (Is.mk (HO.out.trans (seen_no (y := y) hff).symm))
                  have hne : (D == n + 1) = false := by rw [beq_eq_false_iff_ne]; omega
                  clear hff HF2 hD
                  rcases o with _ | _
                  · go_wp2_with fail
                    refine (cs true hhas).mono ?_
                    rintro e w5 ⟨rfl, b5⟩
                    have hbe := hbe.trans (b5.mono hbe.size)
                    go_wp2
                    go_roundw
                    case rel => exact ⟨z + 1, false, by go_num, rfl, by omega, by omega, HO2.out.iff, hbe⟩
                    case measure => simp [intOf]; omega
                  · go_wp2_with fail
                    refine (cs true hhas).mono ?_
                    rintro e w5 ⟨rfl, b5⟩
                    have hbe := hbe.trans (b5.mono hbe.size)
                    go_wp2
                    go_roundw
                    case rel => exact ⟨z + 1, true, by go_num, rfl, by omega, by omega, HO2.out.iff, hbe⟩
                    case measure => simp [intOf]; omega
                · rcases o with _ | _
                  · by_cases hne : D = n + 1
                    · obtain ⟨b, hhas⟩ : ∃ b, hasB ps (ax + z, ay + y) = b := ⟨_, rfl⟩
                      have hff : f (z, y) = !b := by rw [HF2]; exact out_is HD.out hne hhas
                      have hneb : (D == n + 1) = true := by rw [beq_iff_eq]; exact hne
                      have hn2 : decide (D ≤ n) = false := decide_eq_false hn1
                      clear hne hn1
                      rcases b with _ | _
                      · have HO2 := Lib.hid (Is.mk (b := true) (P := Seen f y (z + 1)) ⟨fun _ => seen_yes ⟨hz1, by omega⟩ hy1' hff, fun _ => rfl⟩)
                        clear hff HF2 hD
                        go_wp2_with fail
                        refine (cs false hhas).mono ?_
                        rintro e w5 ⟨rfl, b5⟩
                        have hbe := hbe.trans (b5.mono hbe.size)
                        go_wp2
                        go_roundw
                        case rel => exact ⟨z + 1, true, by go_num, rfl, by omega, by omega, HO2.out.iff, hbe⟩
                        case measure => simp [intOf]; omega
                      · have HO2 := Lib.hid (Is.mk (HO.out.trans (seen_no (y := y) hff).symm))
                        clear hff HF2 hD
                        go_wp2_with fail
                        refine (cs true hhas).mono ?_
                        rintro e w5 ⟨rfl, b5⟩
                        have hbe := hbe.trans (b5.mono hbe.size)
                        go_wp2
                        go_roundw
                        case rel => exact ⟨z + 1, false, by go_num, rfl, by omega, by omega, HO2.out.iff, hbe⟩
                        case measure => simp [intOf]; omega
                    · have hff : f (z, y) = false := by rw [HF2]; exact out_no HD.out hne
                      have HO2 := Lib.hid (Is.mk (HO.out.trans (seen_no (y := y) hff).symm))
                      clear hff HF2 hD
                      go_wp2
                      go_roundw
                      case rel => exact ⟨z + 1, false, by go_num, rfl, by omega, by omega, HO2.out.iff, hbe⟩
                      case measure => simp [intOf]; omega
                  · have HO2 := Lib.hid (Is.mk (b := true) (P := Seen f y (z + 1)) ⟨fun _ => seen_more (HO.out.1 rfl), fun _ => rfl⟩)
                    clear HF2 hD
                    go_wp2
                    go_roundw
                    case rel => exact ⟨z + 1, true, by go_num, rfl, by omega, by omega, HO2.out.iff, hbe⟩
                    case measure => simp [intOf]; omega
              · obtain ⟨D, hDD⟩ : ∃ D, (if Z < Y then Y else Z) = D := ⟨_, rfl⟩
                have hD : offD z y 1 = D := by rw [offD_1, ← hDD, ← hZ, ← hY]; split <;> split <;> split <;> omega
                have e5 : IntKind.i64.wrap (Z + Y) = Z + Y := IntWalk.i64_in _ (by omega)
                have hM := max4 hZ hY hDD
                have HD := Lib.hid hD
                have HF2 := HFD.out
                have hbe : Below w4.heap.size w4 (wr.alloc (.cells #[.int .i64 (ax + z), .int .i64 (ay + y)] 25)) := hbw.trans ((box_below wr _ _).mono hbs)
                by_cases hn1 : D ≤ n
                · have hhas := HI.out z y (by rw [HD.out]; exact hn1)
                  have hff : f (z, y) = false := by rw [HF2]; exact out_no HD.out (by omega)
                  have HO2 := Lib.hid (Is.mk (HO.out.trans (seen_no (y := y) hff).symm))
                  have hne : (D == n + 1) = false := by rw [beq_eq_false_iff_ne]; omega
                  clear hff HF2 hD
                  rcases o with _ | _
                  · go_wp2_with fail
                    refine (cs true hhas).mono ?_
                    rintro e w5 ⟨rfl, b5⟩
                    have hbe := hbe.trans (b5.mono hbe.size)
                    go_wp2
                    go_roundw
                    case rel => exact ⟨z + 1, false, by go_num, rfl, by omega, by omega, HO2.out.iff, hbe⟩
                    case measure => simp [intOf]; omega
                  · go_wp2_with fail
                    refine (cs true hhas).mono ?_
                    rintro e w5 ⟨rfl, b5⟩
                    have hbe := hbe.trans (b5.mono hbe.size)
                    go_wp2
                    go_roundw
                    case rel => exact ⟨z + 1, true, by go_num, rfl, by omega, by omega, HO2.out.iff, hbe⟩
                    case measure => simp [intOf]; omega
                · rcases o with _ | _
                  · by_cases hne : D = n + 1
                    · obtain ⟨b, hhas⟩ : ∃ b, hasB ps (ax + z, ay + y) = b := ⟨_, rfl⟩
                      have hff : f (z, y) = !b := by rw [HF2]; exact out_is HD.out hne hhas
                      have hneb : (D == n + 1) = true := by rw [beq_iff_eq]; exact hne
                      have hn2 : decide (D ≤ n) = false := decide_eq_false hn1
                      clear hne hn1
                      rcases b with _ | _
                      · have HO2 := Lib.hid (Is.mk (b := true) (P := Seen f y (z + 1)) ⟨fun _ => seen_yes ⟨hz1, by omega⟩ hy1' hff, fun _ => rfl⟩)
                        clear hff HF2 hD
                        go_wp2_with fail
                        refine (cs false hhas).mono ?_
                        rintro e w5 ⟨rfl, b5⟩
                        have hbe := hbe.trans (b5.mono hbe.size)
                        go_wp2
                        go_roundw
                        case rel => exact ⟨z + 1, true, by go_num, rfl, by omega, by omega, HO2.out.iff, hbe⟩
                        case measure => simp [intOf]; omega
                      · have HO2 := Lib.hid (Is.mk (HO.out.trans (seen_no (y := y) hff).symm))
                        clear hff HF2 hD
                        go_wp2_with fail
                        refine (cs true hhas).mono ?_
                        rintro e w5 ⟨rfl, b5⟩
                        have hbe := hbe.trans (b5.mono hbe.size)
                        go_wp2
                        go_roundw
                        case rel => exact ⟨z + 1, false, by go_num, rfl, by omega, by omega, HO2.out.iff, hbe⟩
                        case measure => simp [intOf]; omega
                    · have hff : f (z, y) = false := by rw [HF2]; exact out_no HD.out hne
                      have HO2 := Lib.hid (Is.mk (HO.out.trans (seen_no (y := y) hff).symm))
                      clear hff HF2 hD
                      go_wp2
                      go_roundw
                      case rel => exact ⟨z + 1, false, by go_num, rfl, by omega, by omega, HO2.out.iff, hbe⟩
                      case measure => simp [intOf]; omega
                  · have HO2 := Lib.hid (Is.mk (b := true) (P := Seen f y (z + 1)) ⟨fun _ => seen_more (HO.out.1 rfl), fun _ => rfl⟩)
                    clear HF2 hD
                    go_wp2
                    go_roundw
                    case rel => exact ⟨z + 1, true, by go_num, rfl, by omega, by omega, HO2.out.iff, hbe⟩
                    case measure => simp [intOf]; omega
            · obtain rfl : z = 5 := by omega
              have ho := HO.out.trans (seen_row (by decide))
              have HO2 := Lib.hid ho
              clear ho
              go_wp2
              go_roundw
              case rel => exact ⟨y + 1, o, by go_num, rfl, by omega, by omega, HO2.out, hbw⟩
              case measure => simp [intOf]; omega
        · obtain rfl : y = 5 := by omega
          have bbe := below_step bb hbw
          by_cases hn3 : n = 3
          · have e3 : (n == 3) = true := by rw [beq_iff_eq]; exact hn3
            subst hn3
            go_wp2
            go_ret
            exact ⟨rfl, bbe⟩
          · have e3 : (n == 3) = false := by rw [beq_eq_false_iff_ne]; exact hn3
            obtain rfl : o = true := HO.out.2 (HE.out (by omega))
            go_wp2
            go_ret
            exact ⟨rfl, bbe⟩
set_option maxRecDepth 100000 in
theorem lifted (os : Os) (started : os.Started) (H : Type) (enc : TypeId × Value → H) :
    ReturnsInHanded {} Try.checked os 3 .any (Rows.fnRadiusAtSpec.pre6 enc Try.prog Try.f3 Rows.fnRadiusAtRow.domain false) (Rows.fnRadiusAtSpec.post enc Try.prog Try.f3 false true false false) := by
  refine returnsInHanded_of_change (C := Try.checked) own started (by kernel_rfl) Try.func3
    (ChangeSpec.witness6 (enc := enc) (C := Try.checked) false ⟨#[], #[.slice none 0 0], []⟩ 8 (by kernel_rfl) (by kernel_rfl) (by kernel_rfl) (by kernel_rfl)) ?_
  intro W base args ds gs before hval0 hW _ _
  have hval : ∀ (j : Nat) t v, Try.f3.params[j]? = some t → args[j]? = some v → Value.okWide Try.prog W .any base t v := hval0
  have hW' := hW
  obtain ⟨p, q, hA0, hV, rfl, _, _⟩ := hW
  have hA : DataW.TrodAll enc Try.prog W 0 (fun _ => true) true Try.f3.params.toList args.toList ds p := hA0
  rw [Try.params3] at hA hval
  obtain ⟨v0, d0, rfl, rfl, h0⟩ := trodAll_one hA
  obtain ⟨rfl, rfl⟩ := trodVars_none hV
  clear hA0 hval0
  simp only [List.append_nil] at hW'
  have hlt : ∀ x ∈ p, x.block < W.heap.size := fun x hx => by simpa using hW'.lt x hx
  have r0 := open_bytes (hval 0 22 v0 rfl rfl) h0 hlt
  obtain ⟨⟨bA, bn, bc⟩, rfl, rb, rn, rc⟩ := r0
  simp only at rb rn rc
  refine (walk bA bn bc W rb rn rc).mono fun e W' hg => ?_
  obtain ⟨he, hb⟩ := hg
  subst he
  exact ⟨_, rfl, _, _, _, [], p, [], hW', trodAll_mk1 (shut_bool Try.underlying4 _), trodAll_mk1 (kept_arg (by kernel_rfl) (of_decide_eq_true (by kernel_rfl)) h0 hb hlt), rfl, hb.frame _, fun h => by cases h⟩

theorem holds : Rows.FnRadiusAtSaid :=
  OpenClaim.holds_of_wide 3 Try.f3 rfl rfl rfl rfl rfl rfl rfl ⟨rfl, rfl, rfl, rfl, rfl⟩ rfl rfl rfl rfl rfl (by kernel_rfl) Try.func3 (by kernel_rfl)
    (of_decide_eq_true (by kernel_rfl)) (by unfold Func.isWrapper; first | (rw [if_pos (by decide +kernel)]; kernel_rfl) | (rw [if_neg (by decide +kernel)]; exact ⟨rfl, rfl⟩))
    (fun os started H enc _ => lifted os started H enc)
end Go.Proofs.Ytfofmfkdkihhbad.fnRadiusAt
