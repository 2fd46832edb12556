/-
  Proved: the law of CentresOf (FnCentresOf) returns true for every code, and the code reads afterwards as it read before. No conditions.
-/
import Derived.Test.YtfofmfkdkihhbadDraws6
import Derived.Test.YtfofmfkdkihhbadGreatS
import Derived.Test.YtfofmfkdkihhbadSameC
import Derived.Test.YtfofmfkdkihhbadBallI
import Derived.Test.YtfofmfkdkihhbadRadJ
import Derived.Test.YtfofmfkdkihhbadOpen
namespace Go.Proofs.Ytfofmfkdkihhbad.fnCentresOf
open Go.ChangeShapes Go.WideShapes Go.ChangeAt Go.RowKit

theorem impl_lit {l : List Cn} {ps : List Sp} {v : Value} {way : Int} {w : World} (hk : centresL ps way = l) (h : Reads w w.heap.size v ps) : Calls Try.prog 20 #[v, .int .i64 way] w (GivesC l w) := by
  subst hk; exact implCentres_any ps v way w h
theorem spec_lit {l : List Cn} {ps : List Sp} {v : Value} {way : Int} {w : World} (hk : centresL ps way = l) (h : Reads w w.heap.size v ps) : Calls Try.prog 22 #[v, .int .i64 way] w (GivesC l w) := by
  subst hk; exact specCentres_any ps v way w h
theorem rad_lit {ps : List Sp} {v : Value} {ax ay way r : Int} {w : World} (hk : radI ps (ax, ay) way = r) (h : Reads w w.heap.size v ps) : Calls Try.prog 11 #[v, .agg #[.int .i64 ax, .int .i64 ay], .int .i64 way] w (Gives (.int .i64 r) w) := by
  subst hk; exact implRadius_any ps v ax ay way w h
theorem dist_lit {t x y u v way : Int} {w : World} (hk : distI (x, y) (u, v) way = t) : Calls Try.prog 23 #[.agg #[.int .i64 x, .int .i64 y], .agg #[.int .i64 u, .int .i64 v], .int .i64 way] w (Gives (.int .i64 t) w) := by
  subst hk; exact implDist_any x y u v way w
structure One (ps : List Sp) (way : Int) (a : Cn) (k : Nat) : Prop where
  there : ps[k]? = some a.1
  rad : radI ps a.1 way = a.2
  lo : 0 ≤ a.2
  hi : a.2 ≤ 3
structure Facts (ps : List Sp) (way : Int) (l : List Cn) : Prop where
  len : l.length = ps.length
  one : ∀ (k : Nat) (a : Cn), l[k]? = some a → One ps way a k
  two : ∀ a b, a ∈ l → b ∈ l → distI a.1 b.1 way = 1 → a.2 - b.2 ≤ 1 ∧ b.2 - a.2 ≤ 1
theorem facts {ps : List Sp} {way : Int} (h : centresL ps way ≠ []) : Facts ps way (centresL ps way) := by
  rcases hk : (picB ps && way2 way) with _ | _
  · exact absurd (centres_no hk) h
  · rw [Bool.and_eq_true] at hk
    obtain ⟨hp, hw⟩ := hk
    have hm : ∀ a, a ∈ ps → RadOk ps a way := fun a ha => ⟨hp, ha, hw⟩
    have hone : ∀ (k : Nat) (a : Cn), (centresL ps way)[k]? = some a → ps[k]? = some a.1 ∧ a.2 = radN ps a.1 way := by
      intro k a ha
      rw [centres_yes hp hw, List.getElem?_map] at ha
      rcases hx : ps[k]? with _ | x
      · rw [hx] at ha; cases ha
      · rw [hx] at ha
        injection ha with ha
        subst ha
        exact ⟨rfl, rfl⟩
    refine ⟨by rw [centres_yes hp hw, List.length_map], fun k a ha => ?_, fun a b ha hb hd => ?_⟩
    · obtain ⟨h1, h2⟩ := hone k a ha
      have r := radN_rng ps a.1 way
      exact ⟨h1, by rw [rad_yes (radOk_iff.2 (hm _ (List.mem_of_getElem? h1))), h2], by omega, by omega⟩
    · obtain ⟨h1, h2⟩ := (mem_centres hp hw).1 ha
      obtain ⟨h3, h4⟩ := (mem_centres hp hw).1 hb
      have hf : farI a.1 b.1 way = 1 := by
        rcases dist_cases a.1 b.1 way with ⟨_, e⟩ | ⟨_, e⟩ <;> omega
      have k1 := rad_beside (hm _ h1) hf
      have k2 := rad_beside (hm _ h3) (by rw [farI_swap]; exact hf)
      omega
set_option maxRecDepth 100000 in
set_option maxHeartbeats 3200000 in
theorem walk (A : Option Addr) (n c : Nat) (w : World) (hb : Bytes w w.heap.size A n) (hn : n ≤ c) (hc : c ≤ 9223372036854775807) :
    Calls Try.prog 5 #[.slice A n c] w (Gives (.bool true) w) := by
  by_cases hbig : 1048576 < n
  · go_enter Try.func5, Try.ntmps5
    go_wp2
    go_ret
    exact ⟨rfl, Below.refl _ _⟩
  · go_enter Try.func5, Try.ntmps5
    go_wp2_with fail
    refine (drawCentresOf_any A n c _ hb hn hc).mono ?_
    rintro e w1 ⟨v, ps, way, rfl, op, hpl, hway, bb⟩
    clear hb hn hc
    obtain ⟨Ap, cp, rfl, _, _⟩ := op.reads.slice
    obtain ⟨l, hs⟩ : ∃ l, centresL ps way = l := ⟨_, rfl⟩
    have HF : l ≠ [] → Facts ps way l := fun h => by rw [← hs]; rw [← hs] at h; exact facts h
    have HF := Lib.hid HF
    have hll : l.length ≤ 60 := by rw [← hs]; exact centres_len ps way
    have HK := Lib.hid hs
    clear hs
    go_wp2_with fail
    refine (impl_lit HK.out op.reads).mono ?_
    rintro e w2 ⟨vl, rfl, ol, bn⟩
    have bb := below_step bb bn
    have op := op.below bn
    go_wp2_with fail
    refine (spec_lit HK.out op.reads).mono ?_
    rintro e w3 ⟨vx, rfl, ox, bn⟩
    have bb := below_step bb bn
    have op := op.below bn
    have ol := ol.below bn
    go_wp2_with fail
    refine (gives_is (show decide (l = l) = true by simp) (sameCentres_any _ _ _ _ _ ol.reads ox.reads)).mono ?_
    rintro e w4 ⟨rfl, bn⟩
    have bb := below_step bb bn
    have op := op.below bn
    have ol := ol.below bn
    clear ox bn
    obtain ⟨Bl, dl, rfl, _, _⟩ := ol.reads.slice
    by_cases h0 : l.length = 0
    · have e1 : ((l.length : Int) == 0) = true := by rw [beq_iff_eq]; omega
      clear h0
      go_wp2_with fail
      refine (alive_any _).mono ?_
      rintro e w5 ⟨rfl, bn⟩
      go_wp2
      go_ret
      exact ⟨rfl, below_step bb bn⟩
    · have e1 : ((l.length : Int) == 0) = false := by rw [beq_eq_false_iff_ne]; omega
      have F := HF.out (fun e => h0 (by rw [e]; rfl))
      have hlen := F.len
      have HF := Lib.hid F
      clear F
      have hl0 : 0 < l.length := Nat.pos_of_ne_zero h0
      obtain ⟨A1, c1', he, hcc1, _, _, hr1⟩ := op.reads.is
      cases he
      obtain ⟨pb, po, rfl, hpb, hpc⟩ := hr1 (by omega)
      obtain ⟨A2, c2', he, hcc2, _, _, hr2⟩ := ol.reads.is
      injection he with he1 he2 he3
      subst he1 he3
      obtain ⟨lb, lo, rfl, hlb, hlc⟩ := hr2 (by omega)
      have HL := Lib.hid hlen
      clear hr1 hr2 he2 hlen
      go_wp2_with fail
      go_loopw [6, 8] (fun i _ wr => ∃ k : Nat, k ≤ l.length ∧ i = .int .i64 k ∧ Below w4.heap.size w4 wr) (fun i _ _ => l.length - (intOf i).toNat)
      case atStart => exact ⟨0, Nat.zero_le _, rfl, Below.refl _ _⟩
      case round =>
        obtain ⟨k, hk, rfl, hbw⟩ := hrel
        by_cases hlt : k < l.length
        · obtain ⟨⟨⟨ax, ay⟩, ar⟩, hxy⟩ : ∃ a, l[k]? = some a := ⟨_, List.getElem?_eq_getElem hlt⟩
          obtain ⟨a0, a1, a2⟩ := hlc k ax ay ar hxy
          have O := HF.out.one k _ hxy
          have oth := O.there
          have olo := O.lo
          have ohi := O.hi
          have HR := Lib.hid O.rad
          simp only at oth olo ohi
          clear O
          obtain ⟨p0, p1⟩ := hpc k ax ay oth
          have HM := Lib.hid (List.mem_of_getElem? hxy)
          have a0 := (hbw.cell (p := ⟨lb, lo + k * 3, none⟩) hlb).trans a0
          have a1 := (hbw.cell (p := ⟨lb, lo + k * 3 + 1, none⟩) hlb).trans a1
          have a2 := (hbw.cell (p := ⟨lb, lo + k * 3 + 2, none⟩) hlb).trans a2
          clear hxy oth
          go_wp2_with fail
          go_loopw [7] (fun i wr' => ∃ j : Nat, j ≤ k ∧ i = .int .i64 j ∧ Below wr.heap.size wr wr') (fun i _ => k - (intOf i).toNat)
          case atStart => exact ⟨0, Nat.zero_le _, rfl, Below.refl _ _⟩
          case round =>
            obtain ⟨j, hj, rfl, hb2⟩ := hrel
            have hbs2 := hb2.size
            have hlb2 := Nat.lt_of_lt_of_le hlb hbw.size
            by_cases hlj : j < k
            · obtain ⟨⟨⟨x, y⟩, r⟩, hxy⟩ : ∃ a, l[j]? = some a := ⟨_, List.getElem?_eq_getElem (by omega)⟩
              obtain ⟨d0, d1, d2⟩ := hlc j x y r hxy
              have O := HF.out.one j _ hxy
              have qlo := O.lo
              have qhi := O.hi
              simp only at qlo qhi
              have T := HF.out.two _ _ HM.out (List.mem_of_getElem? hxy)
              simp only at T
              obtain ⟨t, ht⟩ : ∃ t, distI (ax, ay) (x, y) way = t := ⟨_, rfl⟩
              rw [ht] at T
              have HD := Lib.hid ht
              have g0 := ((hb2.cell (p := ⟨lb, lo + k * 3, none⟩) hlb2).trans a0)
              have g1 := ((hb2.cell (p := ⟨lb, lo + k * 3 + 1, none⟩) hlb2).trans a1)
              have g2 := ((hb2.cell (p := ⟨lb, lo + k * 3 + 2, none⟩) hlb2).trans a2)
              have g3 := ((hb2.cell (p := ⟨lb, lo + j * 3, none⟩) hlb2).trans ((hbw.cell (p := ⟨lb, lo + j * 3, none⟩) hlb).trans d0))
              have g4 := ((hb2.cell (p := ⟨lb, lo + j * 3 + 1, none⟩) hlb2).trans ((hbw.cell (p := ⟨lb, lo + j * 3 + 1, none⟩) hlb).trans d1))
              have g5 := ((hb2.cell (p := ⟨lb, lo + j * 3 + 2, none⟩) hlb2).trans ((hbw.cell (p := ⟨lb, lo + j * 3 + 2, none⟩) hlb).trans d2))
              have hlb3 := Nat.lt_of_lt_of_le hlb2 hb2.size
              have f0 := cell_regrown g0
              have f1 := cell_regrown g1
              have f2 := cell_regrown g2
              have f3 := cell_regrown g3
              have f4 := cell_regrown g4
              have f5 := cell_regrown g5
              have hm1 : (0 : Int) ≤ (j : Int) := Int.natCast_nonneg _
              have hm2 : (j : Int) < (l.length : Int) := by omega
              have hm3 : (0 : Int) ≤ (k : Int) := Int.natCast_nonneg _
              have hm4 : (k : Int) < (l.length : Int) := by omega
              have hwx : IntKind.i64.wrap (ar - r) = ar - r := IntWalk.i64_in _ (by omega)
              have hw1 : IntKind.i64.wrap (-1) = -1 := by decide
              clear O ht d0 d1 d2 hxy a0 a1 a2 p0 p1
              by_cases h1 : t = 1
              · have T := T h1
                subst h1
                have e5 : decide (1 < ar - r) = false := decide_eq_false (by omega)
                have e6 : decide (ar - r < -1) = false := decide_eq_false (by omega)
                clear T
                go_wp2
                refine wp_region_quiet_below (by kernel_rfl) (by kernel_rfl) ?_
                repeat (go_big_quiet_step (first | fail))
                refine wpQuiet_nil ?_
                intro w5 hw'
                obtain ⟨⟨dq, osq⟩, hw''⟩ := hw'
                have b5 : Below wr.heap.size wr w5 := by rw [hw'']; exact below_regrown _ _ _
                clear hw'' dq osq
                clear f0 f1 f2 f3 f4 f5
                have f0 := cell_regrown ((b5.cell (p := ⟨lb, lo + k * 3, none⟩) hlb3).trans g0)
                have f1 := cell_regrown ((b5.cell (p := ⟨lb, lo + k * 3 + 1, none⟩) hlb3).trans g1)
                have f2 := cell_regrown ((b5.cell (p := ⟨lb, lo + k * 3 + 2, none⟩) hlb3).trans g2)
                have f3 := cell_regrown ((b5.cell (p := ⟨lb, lo + j * 3, none⟩) hlb3).trans g3)
                have f4 := cell_regrown ((b5.cell (p := ⟨lb, lo + j * 3 + 1, none⟩) hlb3).trans g4)
                have f5 := cell_regrown ((b5.cell (p := ⟨lb, lo + j * 3 + 2, none⟩) hlb3).trans g5)
                clear g0 g1 g2 g3 g4 g5
                have b6 := hb2.trans (b5.mono hbs2)
                have hbs6 := b6.size
                go_wp2
                refine wp_region_quiet_below (by kernel_rfl) (by kernel_rfl) ?_
                repeat (go_big_quiet_step (first | (go_at_call 23; with_reducible exact gives_regrown (fun w1 _ => dist_lit HD.out) _ _)))
                refine wpQuiet_nil ?_
                intro _ hw'
                obtain ⟨⟨dq, osq⟩, hw''⟩ := hw'
                subst hw''
                go_wp2
                go_roundw
                case rel => exact ⟨j + 1, by omega, by go_num, b6.trans ((below_regrown _ _ _).mono hbs6)⟩
                case measure => simp [intOf]; omega
              · have e5 : (t == 1) = false := by rw [beq_eq_false_iff_ne]; exact h1
                clear T
                go_wp2
                refine wp_region_quiet_below (by kernel_rfl) (by kernel_rfl) ?_
                repeat (go_big_quiet_step (first | fail))
                refine wpQuiet_nil ?_
                intro w5 hw'
                obtain ⟨⟨dq, osq⟩, hw''⟩ := hw'
                have b5 : Below wr.heap.size wr w5 := by rw [hw'']; exact below_regrown _ _ _
                clear hw'' dq osq
                clear f0 f1 f2 f3 f4 f5
                have f0 := cell_regrown ((b5.cell (p := ⟨lb, lo + k * 3, none⟩) hlb3).trans g0)
                have f1 := cell_regrown ((b5.cell (p := ⟨lb, lo + k * 3 + 1, none⟩) hlb3).trans g1)
                have f2 := cell_regrown ((b5.cell (p := ⟨lb, lo + k * 3 + 2, none⟩) hlb3).trans g2)
                have f3 := cell_regrown ((b5.cell (p := ⟨lb, lo + j * 3, none⟩) hlb3).trans g3)
                have f4 := cell_regrown ((b5.cell (p := ⟨lb, lo + j * 3 + 1, none⟩) hlb3).trans g4)
                have f5 := cell_regrown ((b5.cell (p := ⟨lb, lo + j * 3 + 2, none⟩) hlb3).trans g5)
                clear g0 g1 g2 g3 g4 g5
                have b6 := hb2.trans (b5.mono hbs2)
                have hbs6 := b6.size
                go_wp2
                refine wp_region_quiet_below (by kernel_rfl) (by kernel_rfl) ?_
                repeat (go_big_quiet_step (first | (go_at_call 23; with_reducible exact gives_regrown (fun w1 _ => dist_lit HD.out) _ _)))
                refine wpQuiet_nil ?_
                intro _ hw'
                obtain ⟨⟨dq, osq⟩, hw''⟩ := hw'
                subst hw''
                go_wp2
                go_roundw
                case rel => exact ⟨j + 1, by omega, by go_num, b6.trans ((below_regrown _ _ _).mono hbs6)⟩
                case measure => simp [intOf]; omega
            · obtain rfl : j = k := by omega
              have hpb2 := Nat.lt_of_lt_of_le hpb hbw.size
              have b3 := hbw.trans (hb2.mono hbw.size)
              have rp := (op.below b3).reads
              have f0 := cell_regrown ((hb2.cell (p := ⟨lb, lo + j * 3, none⟩) hlb2).trans a0)
              have f1 := cell_regrown ((hb2.cell (p := ⟨lb, lo + j * 3 + 1, none⟩) hlb2).trans a1)
              have f2 := cell_regrown ((hb2.cell (p := ⟨lb, lo + j * 3 + 2, none⟩) hlb2).trans a2)
              have f3 := cell_regrown ((b3.cell (p := ⟨pb, po + j * 2, none⟩) hpb).trans p0)
              have f4 := cell_regrown ((b3.cell (p := ⟨pb, po + j * 2 + 1, none⟩) hpb).trans p1)
              have hm1 : (0 : Int) ≤ (j : Int) := Int.natCast_nonneg _
              have hm2 : (j : Int) < (l.length : Int) := by omega
              have hm3 : (j : Int) < (ps.length : Int) := by have := HL.out; omega
              have hbs3 := b3.size
              clear a0 a1 a2 p0 p1
              go_wp2
              refine wp_region_quiet_below (by kernel_rfl) (by kernel_rfl) ?_
              repeat (go_big_quiet_step (first | (go_at_call 11; with_reducible exact gives_regrown (fun w1 hb1 => rad_lit HR.out (rp.kept hb1)) _ _)))
              refine wpQuiet_nil ?_
              intro _ hw'
              obtain ⟨⟨dq, osq⟩, hw''⟩ := hw'
              subst hw''
              go_wp2
              go_roundw
              case rel => exact ⟨j + 1, by omega, by go_num, b3.trans ((below_regrown _ _ _).mono hbs3)⟩
              case measure => simp [intOf]; omega
        · obtain rfl : k = l.length := by omega
          have e2 : ((l.length : Int) == (ps.length : Int)) = true := by rw [beq_iff_eq]; have := HL.out; omega
          go_wp2
          go_ret
          exact ⟨rfl, below_step bb hbw⟩
set_option maxRecDepth 100000 in
theorem lifted (os : Os) (started : os.Started) (H : Type) (enc : TypeId × Value → H) :
    ReturnsInHanded {} Try.checked os 5 .any (Rows.fnCentresOfSpec.pre6 enc Try.prog Try.f5 Rows.fnCentresOfRow.domain false) (Rows.fnCentresOfSpec.post enc Try.prog Try.f5 false true false false) := by
  refine returnsInHanded_of_change (C := Try.checked) own started (by kernel_rfl) Try.func5
    (ChangeSpec.witness6 (enc := enc) (C := Try.checked) false ⟨#[], #[.slice none 0 0], []⟩ 8 (by kernel_rfl) (by kernel_rfl) (by kernel_rfl) (by kernel_rfl)) ?_
  intro W base args ds gs before hval0 hW _ _
  have hval : ∀ (j : Nat) t v, Try.f5.params[j]? = some t → args[j]? = some v → Value.okWide Try.prog W .any base t v := hval0
  have hW' := hW
  obtain ⟨p, q, hA0, hV, rfl, _, _⟩ := hW
  have hA : DataW.TrodAll enc Try.prog W 0 (fun _ => true) true Try.f5.params.toList args.toList ds p := hA0
  rw [Try.params5] at hA hval
  obtain ⟨v0, d0, rfl, rfl, h0⟩ := trodAll_one hA
  obtain ⟨rfl, rfl⟩ := trodVars_none hV
  clear hA0 hval0
  simp only [List.append_nil] at hW'
  have hlt : ∀ x ∈ p, x.block < W.heap.size := fun x hx => by simpa using hW'.lt x hx
  have r0 := open_bytes (hval 0 22 v0 rfl rfl) h0 hlt
  obtain ⟨⟨bA, bn, bc⟩, rfl, rb, rn, rc⟩ := r0
  simp only at rb rn rc
  refine (walk bA bn bc W rb rn rc).mono fun e W' hg => ?_
  obtain ⟨he, hb⟩ := hg
  subst he
  exact ⟨_, rfl, _, _, _, [], p, [], hW', trodAll_mk1 (shut_bool Try.underlying4 _), trodAll_mk1 (kept_arg (by kernel_rfl) (of_decide_eq_true (by kernel_rfl)) h0 hb hlt), rfl, hb.frame _, fun h => by cases h⟩

theorem holds : Rows.FnCentresOfSaid :=
  OpenClaim.holds_of_wide 5 Try.f5 rfl rfl rfl rfl rfl rfl rfl ⟨rfl, rfl, rfl, rfl, rfl⟩ rfl rfl rfl rfl rfl (by kernel_rfl) Try.func5 (by kernel_rfl)
    (of_decide_eq_true (by kernel_rfl)) (by unfold Func.isWrapper; first | (rw [if_pos (by decide +kernel)]; kernel_rfl) | (rw [if_neg (by decide +kernel)]; exact ⟨rfl, rfl⟩))
    (fun os started H enc _ => lifted os started H enc)
end Go.Proofs.Ytfofmfkdkihhbad.fnCentresOf
