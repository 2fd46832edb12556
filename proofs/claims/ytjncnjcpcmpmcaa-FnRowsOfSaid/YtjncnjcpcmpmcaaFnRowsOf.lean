/-
  Proved: the law of RowsOf (FnRowsOf) returns true for every code, and the code reads afterwards as it read before. No conditions.
-/
import Derived.Test.YtjncnjcpcmpmcaaDrawsT
import Derived.Test.YtjncnjcpcmpmcaaRowTI
import Derived.Test.YtjncnjcpcmpmcaaStrL
import Derived.Test.YtjncnjcpcmpmcaaOpen
namespace Go.Proofs.Ytjncnjcpcmpmcaa.fnRowsOf
open Go.ChangeShapes Go.WideShapes Go.ChangeAt Go.RowKit

theorem all_app (r s : List Bs) : hashesAll (r ++ s) = hashesAll r + hashesAll s := by
  unfold hashesAll
  rw [List.map_append, List.sum_append]
theorem all_next {r : List Bs} {k : Nat} {l : Bs} (h : r[k]? = some l) : hashesAll (r.take (k + 1)) = hashesAll (r.take k) + hashes l := by
  rw [List.take_add_one, h, all_app]
  congr 1
theorem all_le (r : List Bs) (k : Nat) : hashesAll (r.take k) ≤ hashesAll r := by
  have := all_app (r.take k) (r.drop k)
  rw [List.take_append_drop] at this
  omega
theorem hash_next {l : Bs} {i : Nat} {b : UInt8} (h : l[i]? = some b) : hashes (l.take (i + 1)) = hashes (l.take i) + if b = 35 then 1 else 0 := by
  rw [List.take_add_one, h]
  exact hashes_snoc _ _
theorem impl_lit {p : List Sp} {r : List Bs} {v : Value} {w : World} (h : Reads w w.heap.size v p) (hr : rowsT p = r) : Calls Try.prog 6 #[v] w (GivesStrs r w) := by
  subst hr; exact implRowsT_any p v w h
theorem spec_lit {p : List Sp} {r : List Bs} {v : Value} {w : World} (h : Reads w w.heap.size v p) (hr : rowsT p = r) : Calls Try.prog 8 #[v] w (GivesStrs r w) := by
  subst hr; exact specRows_any p v w h
set_option maxRecDepth 100000 in
set_option maxHeartbeats 3200000 in
theorem walk (A : Option Addr) (n c : Nat) (w : World) (hb : Bytes w w.heap.size A n) (hn : n ≤ c) (hc : c ≤ 9223372036854775807) :
    Calls Try.prog 3 #[.slice A n c] w (Gives (.bool true) w) := by
  by_cases hbig : 1048576 < n
  · go_enter Try.func3, Try.ntmps3
    go_wp2
    go_ret
    exact ⟨rfl, Below.refl _ _⟩
  · go_enter Try.func3, Try.ntmps3
    go_wp2_with fail
    refine (drawRowsOf_any A n c _ hb hn hc).mono ?_
    rintro e w1 ⟨v, ps, rfl, D⟩
    have op := D.own
    have bb := D.below
    have hpl := D.len
    obtain ⟨Ap, cp, rfl, hcp, hmp⟩ := op.reads.slice
    unfold maxLen at hmp
    clear hb hn hc D
    obtain ⟨R, hR⟩ : ∃ R, rowsT ps = R := ⟨_, rfl⟩
    have HR := Lib.hid hR
    clear hR
    go_wp2_with fail
    refine (impl_lit op.reads HR.out).mono ?_
    rintro e w2 ⟨v2, rfl, oL, bn⟩
    have bb := below_step bb bn
    have op := op.below bn
    clear bn
    go_wp2_with fail
    refine (spec_lit op.reads HR.out).mono ?_
    rintro e w3 ⟨v3, rfl, o3, bn⟩
    have bb := below_step bb bn
    have op := op.below bn
    have oL := oL.below bn
    clear bn
    have hRl : R.length ≤ 1000000 := by
      rw [← HR.out]
      by_cases h : picB ps = true ∧ ps ≠ []
      · have := (rowsT_bound h.1 h.2).1; omega
      · rw [rowsT_no h]; simp
    go_wp2_with fail
    refine (sameTexts_any _ _ _ _ _ _ oL o3 hRl).mono ?_
    rintro e w4 ⟨rfl, bn⟩
    have bb := below_step bb bn
    have op := op.below bn
    have oL := oL.below bn
    clear bn o3
    rcases hk : boxOk ps with _ | _
    · have e : R = [] := by rw [← HR.out]; exact rowsT_no (by unfold boxOk at hk; simpa using hk)
      subst e
      obtain ⟨A2, c2, rfl, hc2, hm2, _⟩ := oL.shape
      have cc := boxI_lit op.reads hk (box_no hk)
      clear hk
      go_wp2_with fail
      refine cc.mono ?_
      rintro e w5 ⟨rfl, bn⟩
      have bb := below_step bb bn
      have hs := bb.size
      have bb := (bb.alloc hs (.cells #[.int .i64 0, .int .i64 0] 29)).alloc (by simp; omega) (.cells #[.int .i64 0, .int .i64 0] 29)
      go_wp2_with fail
      refine (alive_any _).mono ?_
      rintro e w6 ⟨rfl, bn⟩
      go_wp2
      go_ret
      exact ⟨rfl, below_step (by first | exact bb | exact bb.drew) bn⟩
    · have hp : picB ps = true := by unfold boxOk at hk; simp at hk; exact hk.1
      have h0 : ps ≠ [] := by unfold boxOk at hk; simp at hk; exact hk.2
      have eB : boxR ps = boxL ps := by unfold boxR; rw [hk]; rfl
      have cc := boxI_lit op.reads hk eB
      have hne : R ≠ [] := by rw [← HR.out]; exact rowsT_ne hp h0
      have HA0 := rows_are hp h0
      have hbd := rowsT_bound hp h0
      rw [HR.out] at HA0 hbd
      obtain ⟨k1, k2⟩ := box_in hp h0
      have hmany := Lib.hid HA0.many
      have HLong := Lib.hid HA0.long
      have HEnds := Lib.hid HA0.ends
      have hall := Lib.hid HA0.all
      have hallb : hashesAll R ≤ 10 := by rw [HA0.all]; exact hpl
      clear HA0 eB hk
      generalize boxL ps = B at *
      obtain ⟨⟨lx, ly⟩, ⟨hx, hy⟩⟩ := B
      simp only at k1 k2 hmany HLong ⊢
      go_wp2_with fail
      refine cc.mono ?_
      rintro e w5 ⟨rfl, bn⟩
      have bb := below_step bb bn
      have oL := oL.below bn
      have hs := bb.size
      simp only
      have q1 := first_block w5 (.cells #[.int .i64 lx, .int .i64 ly] 29) (.cells #[.int .i64 hx, .int .i64 hy] 29)
      have q2 := second_block w5 (.cells #[.int .i64 lx, .int .i64 ly] 29) (.cells #[.int .i64 hx, .int .i64 hy] 29)
      obtain ⟨c0, c1⟩ := cells_of_row q1
      obtain ⟨c2, c3⟩ := cells_of_row q2
      have bz := ((Below.refl w5.heap.size w5).alloc (Nat.le_refl _) (.cells #[.int .i64 lx, .int .i64 ly] 29)).alloc (by simp) (.cells #[.int .i64 hx, .int .i64 hy] 29)
      have oL := oL.below bz
      have bb := below_step bb bz
      have hB : ((w5.alloc (.cells #[.int .i64 lx, .int .i64 ly] 29)).alloc (.cells #[.int .i64 hx, .int .i64 hy] 29)).heap.size = w5.heap.size + 2 := by simp
      obtain ⟨A2, c2', rfl, hc2, hm2, hg⟩ := oL.shape
      rw [strZ_len] at hc2 hg ⊢
      unfold maxLen at hm2
      obtain ⟨g, rfl, hg1, hg2⟩ := hg (List.length_pos_iff.2 hne)
      have hRl2 : R.length ≤ 61 := hbd.1
      have HW := Lib.hid (fun k (l : Bs) (h : R[k]? = some l) => And.intro (hbd.2 l (List.mem_of_getElem? h)) ((oL.cell (k := k) (by rw [strZ_len]; exact (List.getElem?_eq_some_iff.1 h).1)).trans (strZ_at h)))
      clear q1 q2 cc bz hbd bn hs hne
      go_wp2
      generalize ((w5.alloc (.cells #[.int .i64 lx, .int .i64 ly] 29)).alloc (.cells #[.int .i64 hx, .int .i64 hy] 29)) = W at *
      obtain ⟨G, hG⟩ : ∃ G, w5.heap.size = G := ⟨_, rfl⟩
      rw [hG] at hB c0 c1 c2 c3 ⊢
      have hGW0 : G < W.heap.size := by omega
      have hGW1 : G + 1 < W.heap.size := by omega
      clear hG hB
      go_loopw [8, 9] (fun m i wr => ∃ k : Nat, k ≤ R.length ∧ i = .int .i64 (k : Int) ∧ m = .int .i64 (hashesAll (R.take k) : Int) ∧ Below W.heap.size W wr) (fun _ i _ => R.length - (intOf i).toNat)
      case atStart => exact ⟨0, Nat.zero_le _, rfl, by rw [List.take_zero]; rfl, Below.refl _ _⟩
      case round =>
        obtain ⟨k, hk, rfl, rfl, hbw⟩ := hrel
        have d0 := (hbw.cell (p := ⟨G, 0, none⟩) hGW0).trans c0
        have d1 := (hbw.cell (p := ⟨G, 1, none⟩) hGW0).trans c1
        have d2 := (hbw.cell (p := ⟨G + 1, 0, none⟩) hGW1).trans c2
        have d3 := (hbw.cell (p := ⟨G + 1, 1, none⟩) hGW1).trans c3
        by_cases hlt : k < R.length
        · have hd : decide ((k : Int) < (R.length : Int)) = true := decide_eq_true (by omega)
          obtain ⟨l, hl⟩ : ∃ l, R[k]? = some l := ⟨_, List.getElem?_eq_getElem hlt⟩
          have HA := Lib.hid (all_next hl)
          have hal := all_le R k
          obtain ⟨hl61, hcl⟩ := HW.out k l hl
          have hlong := HLong.out k l hl
          have hends := HEnds.out k l hl
          have dl := (hbw.cell (p := ⟨g, k, none⟩) hg2).trans hcl
          have hsl := bs_size l
          have i0 : (0 : Int) ≤ (k : Int) := Int.natCast_nonneg _
          have i1 : (k : Int) < (R.length : Int) := by omega
          have hM1 : hashesAll (R.take k) ≤ 10 := by omega
          generalize hashesAll (R.take k) = M at *
          clear hl hcl
          generalize wr = wo at *
          go_wp2
          go_loopw [10, 11] (fun h j wr => ∃ i : Nat, i ≤ l.length ∧ j = .int .i64 (i : Int) ∧ h = .int .i64 (hashes (l.take i) : Int) ∧ Below wo.heap.size wo wr) (fun _ j _ => l.length - (intOf j).toNat)
          case atStart => exact ⟨0, Nat.zero_le _, rfl, by rw [List.take_zero]; rfl, Below.refl _ _⟩
          case round =>
            obtain ⟨i, hi, rfl, rfl, hbx⟩ := hrel
            have hos := hbw.size
            have f0 := (hbx.cell (p := ⟨G, 0, none⟩) (Nat.lt_of_lt_of_le hGW0 hos)).trans d0
            have f2 := (hbx.cell (p := ⟨G + 1, 0, none⟩) (Nat.lt_of_lt_of_le hGW1 hos)).trans d2
            have fl := (hbx.cell (p := ⟨g, k, none⟩) (Nat.lt_of_lt_of_le hg2 hos)).trans dl
            have hb := hbw.trans (hbx.mono hos)
            by_cases hli : i < l.length
            · have hd2 : decide ((i : Int) < (l.length : Int)) = true := decide_eq_true (by omega)
              obtain ⟨b, hbk⟩ : ∃ b, l[i]? = some b := ⟨_, List.getElem?_eq_getElem hli⟩
              have j0 : (0 : Int) ≤ (i : Int) := Int.natCast_nonneg _
              have j1 : (i : Int) < (l.length : Int) := by omega
              have hix := bs_index (P := Try.prog) Try.underlying9 hbk
              have h35 := u8_lit (b := b) (c := 35) (k := 35) rfl
              obtain ⟨z, hz⟩ : ∃ z : Int, (b.toNat : Int) = z := ⟨_, rfl⟩
              rw [hz] at hix h35
              have HN := Lib.hid (hash_next hbk)
              have hh := hashes_le (l.take i)
              rw [List.length_take] at hh
              have hh2 : hashes (l.take i) ≤ 61 := by omega
              generalize hashes (l.take i) = H at *
              clear hz hbk hh
              by_cases hb35 : b = 35
              · rw [decide_eq_true hb35] at h35
                rw [if_pos hb35] at HN
                clear hb35
                go_wp2
                go_roundw
                case rel => exact ⟨i + 1, by omega, by go_num, by rw [HN.out]; go_num, hbx⟩
                case measure => simp [intOf]; omega
              · rw [decide_eq_false hb35] at h35
                rw [if_neg hb35] at HN
                clear hb35
                go_wp2
                go_roundw
                case rel => exact ⟨i + 1, by omega, by go_num, by rw [HN.out]; rfl, hbx⟩
                case measure => simp [intOf]; omega
            · have hd2 : decide ((i : Int) < (l.length : Int)) = false := decide_eq_false (by omega)
              obtain rfl : i = l.length := by omega
              have e := List.take_length (l := l)
              rw [e]
              clear e
              have hh := hashes_le l
              have f0 := cell_regrown f0
              have f2 := cell_regrown f2
              have fl := cell_regrown fl
              have g1 : ((l.length : Int) != hx - lx + 1) = false := by rw [bne_eq_false_iff_eq]; exact hlong
              have hlx : -30 ≤ hx - lx ∧ hx - lx ≤ 60 := by omega
              by_cases hk0 : k = 0
              · have g2 : ((k : Int) == 0) = true := by rw [hk0]; rfl
                have hpos := hends (.inl hk0)
                have g3 : ((hashes l : Int) == 0) = false := by rw [beq_eq_false_iff_ne]; omega
                generalize hashes l = H at *
                clear hends hlong hk0
                go_wp2
                go_wp2
                refine wp_region_quiet_below (by kernel_rfl) (by kernel_rfl) ?_
                repeat (go_big_quiet_step (first | fail))
                refine wpQuiet_nil ?_
                intro wN hw'
                obtain ⟨⟨dq, osq⟩, hw''⟩ := hw'
                have hN : Below wr.heap.size wr wN := by rw [hw'']; exact below_regrown _ _ _
                clear hw'' dq osq
                have bq := hb.trans (hN.mono hb.size)
                clear hN
                go_wp2
                go_roundw
                case rel => exact ⟨k + 1, by omega, by go_num, by rw [HA.out]; go_num, bq⟩
                case measure => simp [intOf]; omega
              · have g2 : ((k : Int) == 0) = false := by rw [beq_eq_false_iff_ne]; omega
                by_cases hkl : k + 1 = R.length
                · have g4 : ((k : Int) == (R.length : Int) - 1) = true := by rw [beq_iff_eq]; omega
                  have hpos := hends (.inr hkl)
                  have g3 : ((hashes l : Int) == 0) = false := by rw [beq_eq_false_iff_ne]; omega
                  generalize hashes l = H at *
                  have hkl' := Lib.hid hkl
                  clear hends hlong hkl
                  go_wp2
                  go_wp2
                  refine wp_region_quiet_below (by kernel_rfl) (by kernel_rfl) ?_
                  repeat (go_big_quiet_step (first | fail))
                  refine wpQuiet_nil ?_
                  intro wN hw'
                  obtain ⟨⟨dq, osq⟩, hw''⟩ := hw'
                  have hN : Below wr.heap.size wr wN := by rw [hw'']; exact below_regrown _ _ _
                  clear hw'' dq osq
                  have bq := hb.trans (hN.mono hb.size)
                  clear hN
                  go_wp2
                  go_roundw
                  case rel => exact ⟨k + 1, by omega, by go_num, by rw [HA.out]; go_num, bq⟩
                  case measure => simp [intOf]; omega
                · have g4 : ((k : Int) == (R.length : Int) - 1) = false := by rw [beq_eq_false_iff_ne]; omega
                  generalize hashes l = H at *
                  clear hends hlong hkl
                  go_wp2
                  go_wp2
                  refine wp_region_quiet_below (by kernel_rfl) (by kernel_rfl) ?_
                  repeat (go_big_quiet_step (first | fail))
                  refine wpQuiet_nil ?_
                  intro wN hw'
                  obtain ⟨⟨dq, osq⟩, hw''⟩ := hw'
                  have hN : Below wr.heap.size wr wN := by rw [hw'']; exact below_regrown _ _ _
                  clear hw'' dq osq
                  have bq := hb.trans (hN.mono hb.size)
                  clear hN
                  go_wp2
                  go_roundw
                  case rel => exact ⟨k + 1, by omega, by go_num, by rw [HA.out]; go_num, bq⟩
                  case measure => simp [intOf]; omega
        · have hd : decide ((k : Int) < (R.length : Int)) = false := decide_eq_false (by omega)
          obtain rfl : k = R.length := by omega
          have e := List.take_length (l := R)
          rw [e]
          clear e
          have g1 : ((R.length : Int) == hy - ly + 1) = true := by rw [beq_iff_eq]; exact hmany.out
          have g2 : ((hashesAll R : Int) == (ps.length : Int)) = true := by rw [beq_iff_eq, hall.out]
          have hyl : -30 ≤ hy - ly ∧ hy - ly ≤ 60 := by omega
          generalize hashesAll R = M at *
          go_wp2
          go_ret
          exact ⟨rfl, below_step bb hbw⟩

set_option maxRecDepth 100000 in
theorem lifted (os : Os) (started : os.Started) (H : Type) (enc : TypeId × Value → H) :
    ReturnsInHanded {} Try.checked os 3 .any (Rows.fnRowsOfSpec.pre6 enc Try.prog Try.f3 Rows.fnRowsOfRow.domain false) (Rows.fnRowsOfSpec.post enc Try.prog Try.f3 false true false false) := by
  refine returnsInHanded_of_change (C := Try.checked) own started (by kernel_rfl) Try.func3
    (ChangeSpec.witness6 (enc := enc) (C := Try.checked) false ⟨#[], #[.slice none 0 0], []⟩ 8 (by kernel_rfl) (by kernel_rfl) (by kernel_rfl) (by kernel_rfl)) ?_
  intro W base args ds gs before hval0 hW _ _
  have hval : ∀ (j : Nat) t v, Try.f3.params[j]? = some t → args[j]? = some v → Value.okWide Try.prog W .any base t v := hval0
  have hW' := hW
  obtain ⟨p, q, hA0, hV, rfl, _, _⟩ := hW
  have hA : DataW.TrodAll enc Try.prog W 0 (fun _ => true) true Try.f3.params.toList args.toList ds p := hA0
  rw [Try.params3] at hA hval
  obtain ⟨v0, d0, rfl, rfl, h0⟩ := trodAll_one hA
  obtain ⟨rfl, rfl⟩ := trodVars_none hV
  clear hA0 hval0
  simp only [List.append_nil] at hW'
  have hlt : ∀ x ∈ p, x.block < W.heap.size := fun x hx => by simpa using hW'.lt x hx
  have r0 := open_bytes (hval 0 22 v0 rfl rfl) h0 hlt
  obtain ⟨⟨bA, bn, bc⟩, rfl, rb, rn, rc⟩ := r0
  simp only at rb rn rc
  refine (walk bA bn bc W rb rn rc).mono fun e W' hg => ?_
  obtain ⟨he, hb⟩ := hg
  subst he
  exact ⟨_, rfl, _, _, _, [], p, [], hW', trodAll_mk1 (shut_bool Try.underlying4 _), trodAll_mk1 (kept_arg (by kernel_rfl) (of_decide_eq_true (by kernel_rfl)) h0 hb hlt), rfl, hb.frame _, fun h => by cases h⟩

theorem holds : Rows.FnRowsOfSaid :=
  OpenClaim.holds_of_wide 3 Try.f3 rfl rfl rfl rfl rfl rfl rfl ⟨rfl, rfl, rfl, rfl, rfl⟩ rfl rfl rfl rfl rfl (by kernel_rfl) Try.func3 (by kernel_rfl)
    (of_decide_eq_true (by kernel_rfl)) (by unfold Func.isWrapper; first | (rw [if_pos (by decide +kernel)]; kernel_rfl) | (rw [if_neg (by decide +kernel)]; exact ⟨rfl, rfl⟩))
    (fun os started H enc _ => lifted os started H enc)
end Go.Proofs.Ytjncnjcpcmpmcaa.fnRowsOf
