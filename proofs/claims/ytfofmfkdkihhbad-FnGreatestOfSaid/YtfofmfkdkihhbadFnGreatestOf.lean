/-
  Proved: the law of GreatestOf (FnGreatestOf) returns true for every code, and the code reads afterwards as it read before. No conditions.
-/
import Derived.Test.YtfofmfkdkihhbadDraws6
import Derived.Test.YtfofmfkdkihhbadGreatS
import Derived.Test.YtfofmfkdkihhbadSameC
import Derived.Test.YtfofmfkdkihhbadGreatI
import Derived.Test.YtfofmfkdkihhbadFromI
import Derived.Test.YtfofmfkdkihhbadUnion
import Derived.Test.YtfofmfkdkihhbadEq
import Derived.Test.YtfofmfkdkihhbadOpen
namespace Go.Proofs.Ytfofmfkdkihhbad.fnGreatestOf
open Go.ChangeShapes Go.WideShapes Go.ChangeAt Go.RowKit

theorem impl_lit {l : List Cn} {ps : List Sp} {v : Value} {way : Int} {w : World} (hk : greatL ps way = l) (h : Reads w w.heap.size v ps) : Calls Try.prog 29 #[v, .int .i64 way] w (GivesC l w) := by
  subst hk; exact implGreatest_any ps v way w h
theorem spec_lit {l : List Cn} {ps : List Sp} {v : Value} {way : Int} {w : World} (hk : greatL ps way = l) (h : Reads w w.heap.size v ps) : Calls Try.prog 30 #[v, .int .i64 way] w (GivesC l w) := by
  subst hk; exact specGreatest_any ps v way w h
theorem from_lit {b : Bool} {r : List Sp} {l : List Cn} {v : Value} {way : Int} {w : World} (hk : fromOk l way = b) (hr : fromR l way = r) (h : CReads w w.heap.size v l) : Calls Try.prog 32 #[v, .int .i64 way] w (Gives2' r b w) := by
  subst hk hr; exact implFrom_any l v way w h
theorem within_lit {b : Bool} {p q : List Sp} {v u : Value} {w : World} (hk : withinB p q = b) (h : Reads w w.heap.size v p) (h' : Reads w w.heap.size u q) : Calls Try.prog 33 #[v, u] w (Gives (.bool b) w) := by
  subst hk; exact implWithin_any p q v u w h h'
theorem within_sub {p q : List Sp} (h : withinB p q = true) : Sub p q := by
  unfold withinB at h
  rw [Bool.and_eq_true, decide_eq_true_eq] at h
  intro x hx
  have := List.length_filter_eq_length_iff.1 h.2 x hx
  simpa using this
theorem apart {ps : List Sp} {way : Int} {c d : Cn} (hp : picB ps = true) (hw : way2 way = true) (hc : c ∈ greatL ps way) (hd : d ∈ greatL ps way) (h1 : fromOk [c] way = true) (h2 : fromOk [d] way = true) (hlt : c.2 < d.2) : withinB (fromR [c] way) (fromR [d] way) = false := by
  rcases h : withinB (fromR [c] way) (fromR [d] way) with _ | _
  · rfl
  · exfalso
    have hs := within_sub h
    rw [(from_is h1).eq, (from_is h2).eq] at hs
    exact great_apart hp hw hc hd hlt hs
theorem great_nil {ps : List Sp} {way : Int} (h : (picB ps && way2 way) = false) : greatL ps way = [] := by
  unfold greatL; rw [centres_no h]; rfl
set_option maxRecDepth 100000 in
set_option maxHeartbeats 3200000 in
theorem walk (A : Option Addr) (n c : Nat) (w : World) (hb : Bytes w w.heap.size A n) (hn : n ≤ c) (hc : c ≤ 9223372036854775807) :
    Calls Try.prog 7 #[.slice A n c] w (Gives (.bool true) w) := by
  by_cases hbig : 1048576 < n
  · go_enter Try.func7, Try.ntmps7
    go_wp2
    go_ret
    exact ⟨rfl, Below.refl _ _⟩
  · go_enter Try.func7, Try.ntmps7
    go_wp2_with fail
    refine (drawGreatestOf_any A n c _ hb hn hc).mono ?_
    rintro e w1 ⟨v, ps, way, rfl, op, hpl, hway, bb⟩
    clear hb hn hc
    obtain ⟨Ap, cp, rfl, _, _⟩ := op.reads.slice
    obtain ⟨l, hs⟩ : ∃ l, greatL ps way = l := ⟨_, rfl⟩
    have hll : l.length ≤ 60 := by rw [← hs]; exact great_len ps way
    have HK := Lib.hid hs
    obtain ⟨pb, hpb⟩ : ∃ b, picB ps = b := ⟨_, rfl⟩
    have HP := Lib.hid hpb
    have hnil : pb = false ∨ ¬ (0 ≤ way ∧ way ≤ 1) → l = [] := by
      intro h
      rw [← hs]
      refine great_nil ?_
      rcases h with h | h
      · rw [hpb, h]; rfl
      · have : way2 way = false := by unfold way2; exact decide_eq_false h
        rw [this, Bool.and_false]
    have HNIL := Lib.hid hnil
    clear hs hnil hpb
    go_wp2_with fail
    refine (impl_lit HK.out op.reads).mono ?_
    rintro e w2 ⟨vl, rfl, ol, bn⟩
    have bb := below_step bb bn
    have op := op.below bn
    go_wp2_with fail
    refine (spec_lit HK.out op.reads).mono ?_
    rintro e w3 ⟨vx, rfl, ox, bn⟩
    have bb := below_step bb bn
    have op := op.below bn
    have ol := ol.below bn
    go_wp2_with fail
    refine (gives_is (show decide (l = l) = true by simp) (sameCentres_any _ _ _ _ _ ol.reads ox.reads)).mono ?_
    rintro e w4 ⟨rfl, bn⟩
    have bb := below_step bb bn
    have op := op.below bn
    have ol := ol.below bn
    clear ox bn
    obtain ⟨Bl, dl, rfl, _, _⟩ := ol.reads.slice
    rcases pb with _ | _
    · obtain rfl := HNIL.out (Or.inl rfl)
      go_wp2_with fail
      refine (gives_is HP.out (specPicture_any ps _ _ op.reads)).mono ?_
      rintro e w5 ⟨rfl, bn⟩
      have bb := below_step bb bn
      have op := op.below bn
      have ol := ol.below bn
      clear bn
      go_wp2_with fail
      refine (alive_any _).mono ?_
      rintro e w6 ⟨rfl, bn⟩
      have bb := below_step bb bn
      go_wp2
      go_ret
      exact ⟨rfl, bb⟩
    by_cases hw0 : way < 0
    · obtain rfl := HNIL.out (Or.inr (by omega))
      have e1 : decide (way < 0) = true := decide_eq_true hw0
      go_wp2_with fail
      refine (gives_is HP.out (specPicture_any ps _ _ op.reads)).mono ?_
      rintro e w5 ⟨rfl, bn⟩
      have bb := below_step bb bn
      have op := op.below bn
      have ol := ol.below bn
      clear bn
      go_wp2_with fail
      refine (alive_any _).mono ?_
      rintro e w6 ⟨rfl, bn⟩
      have bb := below_step bb bn
      go_wp2
      go_ret
      exact ⟨rfl, bb⟩
    by_cases hw1 : 1 < way
    · obtain rfl := HNIL.out (Or.inr (by omega))
      have e1 : decide (way < 0) = false := decide_eq_false hw0
      have e2 : decide (1 < way) = true := decide_eq_true hw1
      go_wp2_with fail
      refine (gives_is HP.out (specPicture_any ps _ _ op.reads)).mono ?_
      rintro e w5 ⟨rfl, bn⟩
      have bb := below_step bb bn
      have op := op.below bn
      have ol := ol.below bn
      clear bn
      go_wp2_with fail
      refine (alive_any _).mono ?_
      rintro e w6 ⟨rfl, bn⟩
      have bb := below_step bb bn
      go_wp2
      go_ret
      exact ⟨rfl, bb⟩
    · have e1 : decide (way < 0) = false := decide_eq_false hw0
      have e2 : decide (1 < way) = false := decide_eq_false hw1
      have hw2 : way2 way = true := by unfold way2; exact decide_eq_true (by omega)
      have hok := great_ok HP.out hw2
      rw [HK.out] at hok
      have HOK := Lib.hid hok
      have hap : ∀ c d, c ∈ l → d ∈ l → fromOk [c] way = true → fromOk [d] way = true → c.2 < d.2 → withinB (fromR [c] way) (fromR [d] way) = false := by
        intro c d hc hd
        rw [← HK.out] at hc hd
        exact apart HP.out hw2 hc hd
      have HAP := Lib.hid hap
      clear hok hap hw2 HNIL
      go_wp2_with fail
      refine (gives_is HP.out (specPicture_any ps _ _ op.reads)).mono ?_
      rintro e w5 ⟨rfl, bn⟩
      have bb := below_step bb bn
      have op := op.below bn
      have ol := ol.below bn
      clear bn
      go_wp2
      go_loopw [6] (fun i wr => ∃ k : Nat, k ≤ l.length ∧ i = .int .i64 k ∧ Below w5.heap.size w5 wr) (fun i _ => l.length - (intOf i).toNat)
      case atStart => exact ⟨0, Nat.zero_le _, rfl, Below.refl _ _⟩
      case round =>
        obtain ⟨k, hk, rfl, hbw⟩ := hrel
        have olr := ol.below hbw
        by_cases hlt : k < l.length
        · obtain ⟨A2, c2', he, _, _, _, hr2⟩ := ol.reads.is
          cases he
          obtain ⟨lb, lo, rfl, hlb, hlc⟩ := hr2 (by omega)
          obtain ⟨⟨⟨ax, ay⟩, ar⟩, hxy⟩ : ∃ a, l[k]? = some a := ⟨_, List.getElem?_eq_getElem hlt⟩
          obtain ⟨a0, a1, a2⟩ := hlc k ax ay ar hxy
          have HM := Lib.hid (List.mem_of_getElem? hxy)
          have p0 := (hbw.cell (p := ⟨lb, lo + k * 3, none⟩) hlb).trans a0
          have p1 := (hbw.cell (p := ⟨lb, lo + k * 3 + 1, none⟩) hlb).trans a1
          have p2 := (hbw.cell (p := ⟨lb, lo + k * 3 + 2, none⟩) hlb).trans a2
          obtain ⟨one, h1⟩ : ∃ b, fromOk [((ax, ay), ar)] way = b := ⟨_, rfl⟩
          obtain ⟨ra, h2⟩ : ∃ r, fromR [((ax, ay), ar)] way = r := ⟨_, rfl⟩
          have H1 := Lib.hid (And.intro h1 h2)
          clear hxy h1 h2
          have hbs := hbw.size
          have bal : Below wr.heap.size wr (wr.alloc (.cells #[.int .i64 ax, .int .i64 ay, .int .i64 ar] 45)) := box_below _ _ _
          have cr : CReads (wr.alloc (.cells #[.int .i64 ax, .int .i64 ay, .int .i64 ar] 45)) (wr.alloc (.cells #[.int .i64 ax, .int .i64 ay, .int .i64 ar] 45)).heap.size (.slice (some ⟨wr.heap.size, 0, none⟩) 1 1) [((ax, ay), ar)] := CReads.one (by simp [go_sem]) (by simp [go_sem]) (by simp [go_sem])
          go_wp2_with fail
          refine (from_lit H1.out.1 H1.out.2 cr).mono ?_
          rintro e w6 ⟨va, rfl, oa, b6⟩
          have b56 := below_step hbw (below_step bal b6)
          obtain ⟨Aa, ca, rfl, _, _⟩ := oa.reads.slice
          clear bal cr p0 p1 p2 hbw olr b6
          go_wp2_with fail
          go_loopw [9] (fun i wr' => ∃ j : Nat, j ≤ l.length ∧ i = .int .i64 j ∧ Below w6.heap.size w6 wr') (fun i _ => l.length - (intOf i).toNat)
          case atStart => exact ⟨0, Nat.zero_le _, rfl, Below.refl _ _⟩
          case round =>
            obtain ⟨j, hj, rfl, hb2⟩ := hrel
            have bbj := below_step b56 hb2
            by_cases hlj : j < l.length
            · obtain ⟨⟨⟨x, y⟩, r⟩, hxy⟩ : ∃ a, l[j]? = some a := ⟨_, List.getElem?_eq_getElem hlj⟩
              obtain ⟨d0, d1, d2⟩ := hlc j x y r hxy
              have hap := HAP.out _ _ HM.out (List.mem_of_getElem? hxy)
              have p0 := (bbj.cell (p := ⟨lb, lo + j * 3, none⟩) hlb).trans d0
              have p1 := (bbj.cell (p := ⟨lb, lo + j * 3 + 1, none⟩) hlb).trans d1
              have p2 := (bbj.cell (p := ⟨lb, lo + j * 3 + 2, none⟩) hlb).trans d2
              obtain ⟨two, h1⟩ : ∃ b, fromOk [((x, y), r)] way = b := ⟨_, rfl⟩
              obtain ⟨rb, h2⟩ : ∃ r', fromR [((x, y), r)] way = r' := ⟨_, rfl⟩
              have H2 := Lib.hid (And.intro h1 h2)
              rw [H1.out.1, H1.out.2, h1, h2] at hap
              have HB := Lib.hid hap
              clear hxy h1 h2 hap
              have hbs2 := hb2.size
              have bal : Below wr.heap.size wr (wr.alloc (.cells #[.int .i64 x, .int .i64 y, .int .i64 r] 45)) := box_below _ _ _
              have cr : CReads (wr.alloc (.cells #[.int .i64 x, .int .i64 y, .int .i64 r] 45)) (wr.alloc (.cells #[.int .i64 x, .int .i64 y, .int .i64 r] 45)).heap.size (.slice (some ⟨wr.heap.size, 0, none⟩) 1 1) [((x, y), r)] := CReads.one (by simp [go_sem]) (by simp [go_sem]) (by simp [go_sem])
              go_wp2_with fail
              refine (from_lit H2.out.1 H2.out.2 cr).mono ?_
              rintro e w7 ⟨vb, rfl, ob, b7⟩
              have b67 := below_step hb2 (below_step bal b7)
              have b57 := below_step b56 b67
              obtain ⟨Ab, cb, rfl, _, _⟩ := ob.reads.slice
              have ra7 := (oa.below b67).reads
              have rb7 := ob.reads
              have f2 := cell_regrown ((b57.cell (p := ⟨lb, lo + k * 3 + 2, none⟩) hlb).trans a2)
              have f5 := cell_regrown ((b57.cell (p := ⟨lb, lo + j * 3 + 2, none⟩) hlb).trans d2)
              have hm1 : (0 : Int) ≤ (j : Int) := Int.natCast_nonneg _
              have hm2 : (j : Int) < (l.length : Int) := by omega
              have hm3 : (0 : Int) ≤ (k : Int) := Int.natCast_nonneg _
              have hm4 : (k : Int) < (l.length : Int) := by omega
              have b67s := b67.size
              clear bal cr p0 p1 p2 b7 d0 d1
              rcases one with _ | _
              · go_wp2
                refine wp_region_quiet_below (by kernel_rfl) (by kernel_rfl) ?_
                repeat (go_big_quiet_step (first | fail))
                refine wpQuiet_nil ?_
                intro _ hw'
                obtain ⟨⟨dq, osq⟩, hw''⟩ := hw'
                subst hw''
                go_wp2
                go_roundw
                case rel => exact ⟨j + 1, by omega, by go_num, b67.trans ((below_regrown _ _ _).mono b67s)⟩
                case measure => simp [intOf]; omega
              rcases two with _ | _
              · go_wp2
                refine wp_region_quiet_below (by kernel_rfl) (by kernel_rfl) ?_
                repeat (go_big_quiet_step (first | fail))
                refine wpQuiet_nil ?_
                intro _ hw'
                obtain ⟨⟨dq, osq⟩, hw''⟩ := hw'
                subst hw''
                go_wp2
                go_roundw
                case rel => exact ⟨j + 1, by omega, by go_num, b67.trans ((below_regrown _ _ _).mono b67s)⟩
                case measure => simp [intOf]; omega
              by_cases hg : ar < r
              · have HW := Lib.hid (HB.out rfl rfl hg)
                have e5 : decide (ar < r) = true := decide_eq_true hg
                go_wp2
                refine wp_region_quiet_below (by kernel_rfl) (by kernel_rfl) ?_
                repeat (go_big_quiet_step (first | (go_at_call 33; with_reducible exact gives_regrown (fun w1 hb1 => within_lit HW.out (ra7.kept hb1) (rb7.kept hb1)) _ _)))
                refine wpQuiet_nil ?_
                intro _ hw'
                obtain ⟨⟨dq, osq⟩, hw''⟩ := hw'
                subst hw''
                go_wp2
                go_roundw
                case rel => exact ⟨j + 1, by omega, by go_num, b67.trans ((below_regrown _ _ _).mono b67s)⟩
                case measure => simp [intOf]; omega
              · have e5 : decide (ar < r) = false := decide_eq_false hg
                go_wp2
                refine wp_region_quiet_below (by kernel_rfl) (by kernel_rfl) ?_
                repeat (go_big_quiet_step (first | fail))
                refine wpQuiet_nil ?_
                intro _ hw'
                obtain ⟨⟨dq, osq⟩, hw''⟩ := hw'
                subst hw''
                go_wp2
                go_roundw
                case rel => exact ⟨j + 1, by omega, by go_num, b67.trans ((below_regrown _ _ _).mono b67s)⟩
                case measure => simp [intOf]; omega
            · obtain rfl : j = l.length := by omega
              go_wp2
              go_roundw
              case rel => exact ⟨k + 1, by omega, by go_num, bbj⟩
              case measure => simp [intOf]; omega
        · obtain rfl : k = l.length := by omega
          have bb := below_step bb hbw
          have op := op.below hbw
          go_wp2_with fail
          refine (from_lit HOK.out.1 HOK.out.2 olr.reads).mono ?_
          rintro e w6 ⟨vq, rfl, oq, bn⟩
          have bb := below_step bb bn
          have op := op.below bn
          obtain ⟨Aq, cq, rfl, _, _⟩ := oq.reads.slice
          go_wp2_with fail
          refine (gives_is (show decide (ps = ps) = true by simp) (sameSpots_any _ _ _ _ _ oq.reads op.reads)).mono ?_
          rintro e w7 ⟨rfl, bn⟩
          have bb := below_step bb bn
          go_wp2_with fail
          refine (alive_any _).mono ?_
          rintro e w8 ⟨rfl, bn⟩
          have bb := below_step bb bn
          go_wp2
          go_ret
          exact ⟨rfl, bb⟩
set_option maxRecDepth 100000 in
theorem lifted (os : Os) (started : os.Started) (H : Type) (enc : TypeId × Value → H) :
    ReturnsInHanded {} Try.checked os 7 .any (Rows.fnGreatestOfSpec.pre6 enc Try.prog Try.f7 Rows.fnGreatestOfRow.domain false) (Rows.fnGreatestOfSpec.post enc Try.prog Try.f7 false true false false) := by
  refine returnsInHanded_of_change (C := Try.checked) own started (by kernel_rfl) Try.func7
    (ChangeSpec.witness6 (enc := enc) (C := Try.checked) false ⟨#[], #[.slice none 0 0], []⟩ 8 (by kernel_rfl) (by kernel_rfl) (by kernel_rfl) (by kernel_rfl)) ?_
  intro W base args ds gs before hval0 hW _ _
  have hval : ∀ (j : Nat) t v, Try.f7.params[j]? = some t → args[j]? = some v → Value.okWide Try.prog W .any base t v := hval0
  have hW' := hW
  obtain ⟨p, q, hA0, hV, rfl, _, _⟩ := hW
  have hA : DataW.TrodAll enc Try.prog W 0 (fun _ => true) true Try.f7.params.toList args.toList ds p := hA0
  rw [Try.params7] at hA hval
  obtain ⟨v0, d0, rfl, rfl, h0⟩ := trodAll_one hA
  obtain ⟨rfl, rfl⟩ := trodVars_none hV
  clear hA0 hval0
  simp only [List.append_nil] at hW'
  have hlt : ∀ x ∈ p, x.block < W.heap.size := fun x hx => by simpa using hW'.lt x hx
  have r0 := open_bytes (hval 0 22 v0 rfl rfl) h0 hlt
  obtain ⟨⟨bA, bn, bc⟩, rfl, rb, rn, rc⟩ := r0
  simp only at rb rn rc
  refine (walk bA bn bc W rb rn rc).mono fun e W' hg => ?_
  obtain ⟨he, hb⟩ := hg
  subst he
  exact ⟨_, rfl, _, _, _, [], p, [], hW', trodAll_mk1 (shut_bool Try.underlying4 _), trodAll_mk1 (kept_arg (by kernel_rfl) (of_decide_eq_true (by kernel_rfl)) h0 hb hlt), rfl, hb.frame _, fun h => by cases h⟩

theorem holds : Rows.FnGreatestOfSaid :=
  OpenClaim.holds_of_wide 7 Try.f7 rfl rfl rfl rfl rfl rfl rfl ⟨rfl, rfl, rfl, rfl, rfl⟩ rfl rfl rfl rfl rfl (by kernel_rfl) Try.func7 (by kernel_rfl)
    (of_decide_eq_true (by kernel_rfl)) (by unfold Func.isWrapper; first | (rw [if_pos (by decide +kernel)]; kernel_rfl) | (rw [if_neg (by decide +kernel)]; exact ⟨rfl, rfl⟩))
    (fun os started H enc _ => lifted os started H enc)
end Go.Proofs.Ytfofmfkdkihhbad.fnGreatestOf
