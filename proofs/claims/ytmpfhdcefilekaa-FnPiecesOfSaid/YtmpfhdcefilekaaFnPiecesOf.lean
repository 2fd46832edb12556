/-
  Proved: the law of PiecesOf (FnPiecesOf) returns true for every code, and the code reads afterwards as it read before. No conditions.
-/
import Derived.Test.YtmpfhdcefilekaaDraws7
import Derived.Test.YtmpfhdcefilekaaPieceS
import Derived.Test.YtmpfhdcefilekaaPieceI
import Derived.Test.YtmpfhdcefilekaaPartsL
import Derived.Test.YtmpfhdcefilekaaLaw7
import Derived.Test.YtmpfhdcefilekaaOpen
import Derived.Deep.RegionHeld3
namespace Go.Proofs.Ytmpfhdcefilekaa.fnPiecesOf
open Go.ChangeShapes Go.WideShapes Go.ChangeAt Go.RowKit

theorem impl_lit {ls : List (List Sp)} {e : Bool} {ps : List Sp} {v : Value} {w : World} (hk : piecesR e ps = ls) (h : Reads w w.heap.size v ps) : Calls Try.prog 20 #[v, .bool e] w (GivesParts ls w) := by
  subst hk; exact implPieces_any e ps v w h
theorem spec_lit {ls : List (List Sp)} {e : Bool} {ps : List Sp} {v : Value} {w : World} (hk : piecesR e ps = ls) (h : Reads w w.heap.size v ps) : Calls Try.prog 22 #[v, .bool e] w (GivesParts ls w) := by
  subst hk; exact specPieces_any e ps v w h
theorem reach_lit {b e : Bool} {r ps ms : List Sp} {v u : Value} {w : World} (hk : withinB ms ps = b) (hr : reachR e ps ms = r) (h : Reads w w.heap.size v ps) (k : Reads w w.heap.size u ms) : Calls Try.prog 14 #[v, u, .bool e] w (Gives2' r b w) := by
  subst hk hr; exact implReached_any e ps ms v u w h k
theorem common_lit {r p q : List Sp} {v u : Value} {w : World} (hk : commonL p q = r) (h : Reads w w.heap.size v p) (h' : Reads w w.heap.size u q) : Calls Try.prog 23 #[v, u] w (Gives1 r w) := by
  subst hk; exact implCommon_any p q v u w h h'
set_option maxRecDepth 100000 in
set_option maxHeartbeats 3200000 in
theorem walk (A : Option Addr) (n c : Nat) (w : World) (hb : Bytes w w.heap.size A n) (hn : n ≤ c) (hc : c ≤ 9223372036854775807) :
    Calls Try.prog 4 #[.slice A n c] w (Gives (.bool true) w) := by
  by_cases hbig : 1048576 < n
  · go_enter Try.func4, Try.ntmps4
    go_wp2
    go_ret
    exact ⟨rfl, Below.refl _ _⟩
  · go_enter Try.func4, Try.ntmps4
    go_wp2_with fail
    refine (drawPiecesOf_any A n c _ hb hn hc).mono ?_
    rintro e w1 ⟨v, ps, b, rfl, op, hpl, bb⟩
    obtain ⟨Ap, cp, rfl, _, _⟩ := op.reads.slice
    clear hb hn hc
    obtain ⟨ls, hls⟩ : ∃ ls, piecesR b ps = ls := ⟨_, rfl⟩
    have HL := Lib.hid hls
    clear hls
    go_wp2_with fail
    refine (impl_lit HL.out op.reads).mono ?_
    rintro e w2 ⟨vl, rfl, ol, bn⟩
    have bb := below_step bb bn
    have op := op.below bn
    go_wp2_with fail
    refine (spec_lit HL.out op.reads).mono ?_
    rintro e w3 ⟨vx, rfl, ox, bn⟩
    have bb := below_step bb bn
    have op := op.below bn
    have ol := ol.below bn
    go_wp2_with fail
    refine (gives_is (show decide (ls = ls) = true by simp) (sameParts_any _ _ _ _ _ ol.reads ox.reads)).mono ?_
    rintro e w4 ⟨rfl, bn⟩
    have bb := below_step bb bn
    have rp := (op.below bn).reads
    have rl := (ol.below bn).reads
    clear ox bn op ol
    obtain ⟨Al, cl, vs, rfl, hcl, hml, hvl, hcell, hin⟩ := rl.is
    unfold maxLen at hml
    rcases hp : picB ps with _ | _
    · have hnil : ls = [] := by rw [← HL.out, piecesR_no hp]
      subst hnil
      have HP := Lib.hid hp
      have hne : ps.length ≠ 0 := fun e => by
        rw [List.eq_nil_of_length_eq_zero e] at hp
        exact absurd hp (by decide)
      have hneb : ((0 : Int) == (ps.length : Int)) = false := beq_eq_false_iff_ne.2 (by omega)
      clear hp hne
      go_wp2
      refine wp_loop_rounds 1 ?_
      rw [rounds_succ]
      go_wp2_with fail
      refine (gives_is HP.out (implPicture_any ps _ _ rp)).mono ?_
      rintro e w5 ⟨rfl, bn⟩
      have bb := below_step bb bn
      go_wp2_with fail
      refine (alive_any _).mono ?_
      rintro e w6 ⟨rfl, bn⟩
      have bb := below_step bb bn
      go_wp2
      go_ret
      exact ⟨rfl, bb⟩
    · have hlp : piecesL b ps = ls := by rw [← HL.out, piecesR_yes hp]
      have HQ := Lib.hid (fun q (hq : q ∈ ls) => (piece7 (e := b) hp (by rw [hlp]; exact hq) : Piece7 b ps q))
      have HA := Lib.hid (fun (k j : Nat) (q r : List Sp) (hk : ls[k]? = some q) (hj : ls[j]? = some r) (hne : j ≠ k) => (pieces7_apart (e := b) hp (by rw [hlp]; exact hk) (by rw [hlp]; exact hj) hne : commonL q r = []))
      have hsum : (ls.map List.length).sum = ps.length := by rw [← hlp]; exact pieces_sum (picB_pic hp).2.2
      have hll : ls.length ≤ 60 := by
        rw [← hlp, length_piecesL]
        exact Nat.le_trans (length_firsts_le b ps) hpl
      have HS := Lib.hid (show sumUpTo ls ls.length = ps.length by rw [sumUpTo_all, hsum])
      have HSL := Lib.hid (fun k => (show sumUpTo ls k ≤ 60 from Nat.le_trans (sumUpTo_le ls k) (by omega)))
      clear hp hlp hsum
      go_wp2
      go_loopw [6, 7] (fun s i wr => ∃ k : Nat, k ≤ ls.length ∧ i = .int .i64 k ∧ s = .int .i64 (sumUpTo ls k) ∧ Below w4.heap.size w4 wr) (fun _ i _ => ls.length - (intOf i).toNat)
      case atStart => exact ⟨0, Nat.zero_le _, rfl, rfl, Below.refl _ _⟩
      case round =>
        obtain ⟨k, hk, rfl, rfl, hbw⟩ := hrel
        by_cases hlk : k < ls.length
        · obtain ⟨bl, rfl, hbl, hcv⟩ := hcell (by omega)
          obtain ⟨q, hq⟩ : ∃ q, ls[k]? = some q := ⟨_, List.getElem?_eq_getElem hlk⟩
          obtain ⟨u, hu, hru⟩ := hin k q hq
          obtain ⟨Au, cu, rfl, _, hmu⟩ := hru.slice
          unfold maxLen at hmu
          have c0 := hcv k _ hu
          have d0 := (hbw.cell (p := ⟨bl, k, none⟩) hbl).trans c0
          have HP7 := Lib.hid (HQ.out q (List.mem_of_getElem? hq))
          have hm3 : (0 : Int) ≤ (k : Int) := Int.natCast_nonneg _
          have hm4 : (k : Int) < (ls.length : Int) := by omega
          have HK := Lib.hid hq
          clear hq hu
          go_wp2_with fail
          refine (reach_lit HP7.out.win HP7.out.reach (rp.kept hbw) (hru.kept hbw)).mono ?_
          rintro e w5 ⟨vs', rfl, os, b5⟩
          have hb5 := below_step hbw b5
          obtain ⟨As, cs, rfl, _, _⟩ := os.reads.slice
          clear b5 hbw d0
          go_wp2
          go_loopw [10] (fun i wr' => ∃ j : Nat, j ≤ k ∧ i = .int .i64 j ∧ Below w5.heap.size w5 wr') (fun i _ => k - (intOf i).toNat)
          case atStart => exact ⟨0, Nat.zero_le _, rfl, Below.refl _ _⟩
          case round =>
            obtain ⟨j, hj, rfl, hb2⟩ := hrel
            have hbj := below_step hb5 hb2
            have d0 := (hbj.cell (p := ⟨bl, k, none⟩) hbl).trans c0
            by_cases hlj : j < k
            · obtain ⟨r, hr⟩ : ∃ q, ls[j]? = some q := ⟨_, List.getElem?_eq_getElem (by omega)⟩
              obtain ⟨t, ht, hrt⟩ := hin j r hr
              obtain ⟨At, ct, rfl, _, _⟩ := hrt.slice
              have e1 := hcv j _ ht
              have bd := hbj.drew
              have d0 : wr.drew.cell? ⟨bl, k, none⟩ = some (.slice Au q.length cu) := d0
              have d1 : wr.drew.cell? ⟨bl, j, none⟩ = some (.slice At r.length ct) := (hbj.cell (p := ⟨bl, j, none⟩) hbl).trans e1
              have hcom := HA.out k j q r HK.out hr (by omega)
              have HC := Lib.hid hcom
              have hsb : bl < wr.drew.heap.size := Nat.lt_of_lt_of_le hbl bd.size
              have hj0 : (0 : Int) ≤ (j : Int) := Int.natCast_nonneg _
              have hj1 : (j : Int) < (ls.length : Int) := by omega
              have hj2 : j < ls.length := by omega
              clear hr ht hcom e1
              go_wp2_with fail
              go_region_held3 (fun w' => w'.cell? ⟨bl, k, none⟩ = some (.slice Au q.length cu) ∧ w'.cell? ⟨bl, j, none⟩ = some (.slice At r.length ct)) (refine ⟨?_, ?_⟩ <;> with_reducible assumption)
                ((go_at_call 23; refine (common_lit HC.out (hru.kept bd) (hrt.kept bd)).mono ?_; rintro e w6 ⟨vc, rfl, oc, hbn⟩; obtain ⟨Ac, cc, rfl, _, _⟩ := oc.reads.slice; have hbz := below_step hb2.drew hbn; have d0 := (hbn.cell (p := ⟨bl, k, none⟩) hsb).trans d0; have d1 := (hbn.cell (p := ⟨bl, j, none⟩) hsb).trans d1))
              go_wp2
              go_roundw
              case rel => exact ⟨j + 1, by omega, by go_num, hbz⟩
              case measure => simp [intOf]; omega
            · obtain rfl : j = k := by omega
              have rq := hru.kept hbj
              go_wp2_with fail
              refine (gives_is (show decide (q = q) = true by simp) (sameSpots_any _ _ _ _ _ (os.below hb2).reads rq)).mono ?_
              rintro e w6 ⟨rfl, b6⟩
              have hb6 := below_step hbj b6
              have hb26 := below_step hb2 b6
              have d2 := (hb6.cell (p := ⟨bl, j, none⟩) hbl).trans c0
              obtain ⟨ls2, hls2⟩ : ∃ l, piecesR b q = l := ⟨_, rfl⟩
              have hone : ls2.length = 1 := by rw [← hls2]; exact HP7.out.one
              have HL2 := Lib.hid hls2
              clear hls2 rq d0 b6
              go_wp2_with fail
              refine (impl_lit HL2.out (hru.kept hb6)).mono ?_
              rintro e w7 ⟨v7, rfl, o7, b7⟩
              have hb7 := below_step hb6 b7
              obtain ⟨A7, c7, rfl, _, _⟩ := o7.reads.slice
              have d3 := (hb7.cell (p := ⟨bl, j, none⟩) hbl).trans c0
              have hone2 : (((ls2.length : Int) != 1)) = false := by rw [hone]; rfl
              have hsk := HSL.out (j + 1)
              have HT := Lib.hid (sumUpTo_succ HK.out)
              have hsum2 : sumUpTo ls j + q.length ≤ 60 := by have := HT.out; omega
              clear hone hsk d2
              go_wp2
              go_roundw
              case rel => exact ⟨j + 1, by omega, by go_num, by rw [HT.out]; go_num, hb7⟩
              case measure => simp [intOf]; omega
        · obtain rfl : k = ls.length := by omega
          rw [HS.out]
          have bb := below_step bb hbw
          have heq : ((ps.length : Int) == (ps.length : Int)) = true := by simp
          go_wp2_with fail
          refine (alive_any _).mono ?_
          rintro e w6 ⟨rfl, bn⟩
          have bb := below_step bb bn
          go_wp2
          go_ret
          exact ⟨rfl, bb⟩
set_option maxRecDepth 100000 in
theorem lifted (os : Os) (started : os.Started) (H : Type) (enc : TypeId × Value → H) :
    ReturnsInHanded {} Try.checked os 4 .any (Rows.fnPiecesOfSpec.pre6 enc Try.prog Try.f4 Rows.fnPiecesOfRow.domain false) (Rows.fnPiecesOfSpec.post enc Try.prog Try.f4 false true false false) := by
  refine returnsInHanded_of_change (C := Try.checked) own started (by kernel_rfl) Try.func4
    (ChangeSpec.witness6 (enc := enc) (C := Try.checked) false ⟨#[], #[.slice none 0 0], []⟩ 8 (by kernel_rfl) (by kernel_rfl) (by kernel_rfl) (by kernel_rfl)) ?_
  intro W base args ds gs before hval0 hW _ _
  have hval : ∀ (j : Nat) t v, Try.f4.params[j]? = some t → args[j]? = some v → Value.okWide Try.prog W .any base t v := hval0
  have hW' := hW
  obtain ⟨p, q, hA0, hV, rfl, _, _⟩ := hW
  have hA : DataW.TrodAll enc Try.prog W 0 (fun _ => true) true Try.f4.params.toList args.toList ds p := hA0
  rw [Try.params4] at hA hval
  obtain ⟨v0, d0, rfl, rfl, h0⟩ := trodAll_one hA
  obtain ⟨rfl, rfl⟩ := trodVars_none hV
  clear hA0 hval0
  simp only [List.append_nil] at hW'
  have hlt : ∀ x ∈ p, x.block < W.heap.size := fun x hx => by simpa using hW'.lt x hx
  have r0 := open_bytes (hval 0 22 v0 rfl rfl) h0 hlt
  obtain ⟨⟨bA, bn, bc⟩, rfl, rb, rn, rc⟩ := r0
  simp only at rb rn rc
  refine (walk bA bn bc W rb rn rc).mono fun e W' hg => ?_
  obtain ⟨he, hb⟩ := hg
  subst he
  exact ⟨_, rfl, _, _, _, [], p, [], hW', trodAll_mk1 (shut_bool Try.underlying4 _), trodAll_mk1 (kept_arg (by kernel_rfl) (of_decide_eq_true (by kernel_rfl)) h0 hb hlt), rfl, hb.frame _, fun h => by cases h⟩

theorem holds : Rows.FnPiecesOfSaid :=
  OpenClaim.holds_of_wide 4 Try.f4 rfl rfl rfl rfl rfl rfl rfl ⟨rfl, rfl, rfl, rfl, rfl⟩ rfl rfl rfl rfl rfl (by kernel_rfl) Try.func4 (by kernel_rfl)
    (of_decide_eq_true (by kernel_rfl)) (by unfold Func.isWrapper; first | (rw [if_pos (by decide +kernel)]; kernel_rfl) | (rw [if_neg (by decide +kernel)]; exact ⟨rfl, rfl⟩))
    (fun os started H enc _ => lifted os started H enc)
end Go.Proofs.Ytmpfhdcefilekaa.fnPiecesOf
