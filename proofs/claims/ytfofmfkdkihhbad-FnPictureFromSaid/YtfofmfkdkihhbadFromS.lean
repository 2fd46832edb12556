/- PictureFrom of the model. No conditions but those typed. -/
import Derived.Test.YtfofmfkdkihhbadGreatS
import Derived.Test.YtfofmfkdkihhbadUnionS
namespace Go.Proofs.Ytfofmfkdkihhbad
open Go.RowKit Go.Sort

theorem from_bad1 {l : List Cn} {way : Int} {c : Cn} (hc : c ∈ l) (h : ballOk c.2 way = false) : fromOk l way = false := by
  rcases k : fromOk l way with _ | _
  · rfl
  · have := ((from_is k).all c hc).1; rw [h] at this; cases this
theorem from_bad2 {l : List Cn} {way : Int} (h : way2 way = false) : fromOk l way = false := by unfold fromOk; rw [h]; rfl
theorem from_bad3 {l : List Cn} {way : Int} {c : Cn} (hc : c ∈ l) (h : picB [c.1] = false) : fromOk l way = false := by
  rcases k : fromOk l way with _ | _
  · rfl
  · have := ((from_is k).all c hc).2; rw [h] at this; cases this
/-- the union of the balls of the first k, and of the first j spots of the next one's -/
def fromUpto (l : List Cn) (way : Int) (k : Nat) : List Sp := fromL (l.take k) way
theorem fromUpto_zero (l : List Cn) (way : Int) : fromUpto l way 0 = [] := rfl
theorem fromUpto_all (l : List Cn) (way : Int) : fromUpto l way l.length = fromL l way := by unfold fromUpto; rw [List.take_length]
theorem puts_append : ∀ (a b c : List Sp), puts a (b ++ c) = puts (puts a b) c
  | _, [], _ => rfl
  | a, x :: b, c => puts_append (put a x) b c
theorem fromUpto_succ {l : List Cn} {way : Int} {k : Nat} {c : Cn} (h : l[k]? = some c) : fromUpto l way (k + 1) = puts (fromUpto l way k) (ballAt way c) := by
  unfold fromUpto fromL
  rw [List.take_add_one, h, List.flatMap_append, puts_append]
  simp
theorem length_le_puts : ∀ (q p : List Sp), p.length ≤ (puts p q).length
  | [], _ => Nat.le_refl _
  | a :: q, p => Nat.le_trans (length_le_put p a) (length_le_puts q (put p a))
theorem from_bad4 {l : List Cn} {way : Int} {k : Nat} (h : 60 < (fromUpto l way k).length) : fromOk l way = false := by
  rcases e : fromOk l way with _ | _
  · rfl
  · exfalso
    have hp := (picB_pic (from_is e).pp).1
    have : (fromUpto l way k).length ≤ (fromL l way).length := by
      unfold fromUpto fromL
      have e2 : l.flatMap (ballAt way) = (l.take k).flatMap (ballAt way) ++ (l.drop k).flatMap (ballAt way) := by rw [← List.flatMap_append, List.take_append_drop]
      rw [e2, puts_append]
      exact length_le_puts _ _
    omega
def fromPart (p bs : List Sp) (a : Sp) (j : Nat) : List Sp := puts p ((bs.take j).map (addS a))
theorem fromPart_zero (p bs : List Sp) (a : Sp) : fromPart p bs a 0 = p := rfl
theorem fromPart_succ {p bs : List Sp} {a : Sp} {j : Nat} {x y : Int} (h : bs[j]? = some (x, y)) : fromPart p bs a (j + 1) = put (fromPart p bs a j) (a.1 + x, a.2 + y) := by
  unfold fromPart
  rw [List.take_add_one, h, List.map_append, puts_append]; rfl
theorem fromPart_all {p : List Sp} {way : Int} {c : Cn} : fromPart p (ballL c.2 way) c.1 (ballL c.2 way).length = puts p (ballAt way c) := by
  unfold fromPart ballAt; rw [List.take_length]
theorem length_fromPart (p bs : List Sp) (a : Sp) (j : Nat) : (fromPart p bs a j).length ≤ p.length + bs.length := by
  unfold fromPart
  refine Nat.le_trans (length_puts_le _ _) ?_
  rw [List.length_map]
  have := List.length_take_le' j bs
  omega
theorem allUpto_next {l : List Cn} {way : Int} {k : Nat} {c : Cn} (h : ∀ j d, j < k → l[j]? = some d → ballOk d.2 way = true ∧ picB [d.1] = true) (hc : l[k]? = some c) (h1 : ballOk c.2 way = true) (h2 : picB [c.1] = true) : ∀ j d, j < k + 1 → l[j]? = some d → ballOk d.2 way = true ∧ picB [d.1] = true := fun j d hj hd => by
  by_cases e : j = k
  · subst e
    rw [hc] at hd
    cases hd
    exact ⟨h1, h2⟩
  · exact h j d (by omega) hd
set_option maxRecDepth 100000 in
set_option maxHeartbeats 3200000 in
theorem specFrom_any (l : List Cn) (v : Value) (way : Int) (w : World) (h : CReads w w.heap.size v l) :
    Calls Try.prog 36 #[v, .int .i64 way] w (Gives2' (fromR l way) (fromOk l way) w) := by
  obtain ⟨A, c, rfl, hc, hm, hA, hr⟩ := h.is
  unfold maxLen at hm
  have b0 : Below w.heap.size w (w.alloc (.cells #[] 25)) := (Below.refl _ _).alloc (Nat.le_refl _) _
  have oE := Owns.empty w w.heap.size (Nat.le_refl _)
  go_enter Try.func36, Try.ntmps36
  go_wp2
  go_loopw [6, 7] (fun o i wr => ∃ k : Nat, k ≤ l.length ∧ i = .int .i64 k ∧ Owns wr w.heap.size o (fromUpto l way k) ∧ (fromUpto l way k).length ≤ 120 ∧ (∀ j d, j < k → l[j]? = some d → ballOk d.2 way = true ∧ picB [d.1] = true) ∧ Below w.heap.size w wr) (fun _ i _ => l.length - (intOf i).toNat)
  case atStart => exact ⟨0, Nat.zero_le _, rfl, oE, by rw [fromUpto_zero]; simp, fun j d hj => by omega, b0⟩
  case round =>
    clear oE b0
    obtain ⟨k, hk, rfl, hown, hlen, hall, hbw⟩ := hrel
    have HALL := Lib.hid hall
    clear hall
    obtain ⟨Ao, co, rfl, hco, hmo⟩ := hown.reads.slice
    unfold maxLen at hmo
    by_cases hlt : k < l.length
    · obtain ⟨⟨⟨ax, ay⟩, ar⟩, hxy⟩ : ∃ a, l[k]? = some a := ⟨_, List.getElem?_eq_getElem hlt⟩
      obtain ⟨b, off, rfl, hb, hcell⟩ := hr (by omega)
      obtain ⟨a0, a1, a2⟩ := hcell k ax ay ar hxy
      have hmem := List.mem_of_getElem? hxy
      have HX := Lib.hid hxy
      have d2 := (hbw.cell (p := ⟨b, off + k * 3 + 2, none⟩) hb).trans a2
      have hbs := hbw.size
      clear hxy hcell
      go_wp2_with fail
      refine (specBall_any ar way _).mono ?_
      rintro e w1 ⟨vb, rfl, ob, b1⟩
      have bx := below_step hbw b1
      have own1 := hown.below b1
      clear d2
      rcases h1 : ballOk ar way with _ | _
      · rw [ball_no h1] at ob
        obtain ⟨Ab, cb, rfl, _, _⟩ := ob.reads.slice
        have HN0 := Lib.hid (from_bad1 (way := way) hmem h1)
        clear h1
        have HN := Lib.hid HN0.out
        go_wp2
        go_ret2
        exact ⟨_, by rw [HN.out]; rfl, by rw [from_no HN.out]; exact Owns.empty _ _ bx.size, bx.alloc bx.size _⟩
      have hpos := ball_pos h1
      have hbl := ball_len ar way
      have hpb : (((ballL ar way).length : Int) == 0) = false := by rw [beq_eq_false_iff_ne]; omega
      have HB1 := Lib.hid h1
      obtain ⟨bs, hbsE⟩ : ∃ bs, ballL ar way = bs := ⟨_, rfl⟩
      have HBS := Lib.hid hbsE
      have hbn := ball_near (r := ar) (way := way)
      rw [hbsE] at ob hpos hbl hpb hbn
      have HBN := Lib.hid hbn
      clear h1 hbsE hbn
      obtain ⟨Ab, cb, rfl, hcb, hmb, _, hrb⟩ := ob.reads.is
      unfold maxLen at hmb
      rcases h2 : way2 way with _ | _
      · have HN0 := Lib.hid (from_bad2 (l := l) h2)
        have H2 := Lib.hid (show decide ((0 : Int) ≤ way ∧ way ≤ 1) = false from h2)
        clear h2
        go_wp2_with fail
        refine (gives_is H2.out (l1In_any _ _ _ _)).mono ?_
        rintro e w2 ⟨rfl, b2⟩
        have bx := below_step bx b2
        have HN := Lib.hid HN0.out
        go_wp2
        go_ret2
        exact ⟨_, by rw [HN.out]; rfl, by rw [from_no HN.out]; exact Owns.empty _ _ bx.size, bx.alloc bx.size _⟩
      have H2 := Lib.hid (show decide ((0 : Int) ≤ way ∧ way ≤ 1) = true from h2)
      clear h2
      go_wp2_with fail
      refine (gives_is H2.out (l1In_any _ _ _ _)).mono ?_
      rintro e w2 ⟨rfl, b2⟩
      have bx := below_step bx b2
      have own2 := own1.below b2
      have ob2 := ob.below b2
      have d0 := (bx.cell (p := ⟨b, off + k * 3, none⟩) hb).trans a0
      have d1 := (bx.cell (p := ⟨b, off + k * 3 + 1, none⟩) hb).trans a1
      have li := litB w2 [(ax, ay)] #[.int .i64 ax, .int .i64 ay] rfl (by simp)
      have ba := box_below w2 #[.int .i64 ax, .int .i64 ay] 25
      rcases h3 : picB [(ax, ay)] with _ | _
      · have HN0 := Lib.hid (from_bad3 (way := way) hmem h3)
        have H3 := Lib.hid h3
        clear h3
        go_wp2_with fail
        refine (gives_is H3.out (specPicture_any _ _ _ li.reads)).mono ?_
        rintro e w3 ⟨rfl, b3⟩
        have bx := below_step (below_step bx ba) b3
        clear li ba d0 d1
        have HN := Lib.hid HN0.out
        go_wp2
        go_ret2
        exact ⟨_, by rw [HN.out]; rfl, by rw [from_no HN.out]; exact Owns.empty _ _ bx.size, bx.alloc bx.size _⟩
      have hin := picB_one.1 h3
      unfold InR at hin
      simp only at hin
      have H3 := Lib.hid h3
      clear h3
      go_wp2_with fail
      refine (gives_is H3.out (specPicture_any _ _ _ li.reads)).mono ?_
      rintro e w3 ⟨rfl, b3⟩
      have bx := below_step (below_step bx ba) b3
      have own3 := (own2.below ba).below b3
      have ob3 := (ob2.below ba).below b3
      clear li ba d0 d1 own1 own2 ob ob2 b1 b2 b3 hown
      by_cases h4 : 60 < (fromUpto l way k).length
      · have HN0 := Lib.hid (from_bad4 h4)
        have HN := Lib.hid HN0.out
        go_wp2
        go_ret2
        exact ⟨_, by rw [HN.out]; rfl, by rw [from_no HN.out]; exact Owns.empty _ _ bx.size, bx.alloc bx.size _⟩
      · have h4i : ¬ (60 : Int) < ((fromUpto l way k).length : Int) := by omega
        have h4d : decide (60 < (fromUpto l way k).length) = false := decide_eq_false h4
        have h4l : (fromUpto l way k).length ≤ 60 := by omega
        clear h4
        obtain ⟨P, hP⟩ : ∃ P, fromUpto l way k = P := ⟨_, rfl⟩
        have HPE := Lib.hid hP
        rw [hP] at own3 hlen h4i h4d h4l hco
        rw [hP]
        have HALL2 := Lib.hid (allUpto_next HALL.out HX.out HB1.out H3.out)
        clear hP hrb
        go_wp2
        go_loopw [6, 9] (fun o i wr => ∃ j : Nat, j ≤ bs.length ∧ i = .int .i64 j ∧ Owns wr w.heap.size o (fromPart P bs (ax, ay) j) ∧ Owns wr wr.heap.size (.slice none 0 0) [] ∧ (∃ g, Owns wr g (.slice Ab bs.length cb) bs) ∧ Below w.heap.size w wr) (fun _ i _ => bs.length - (intOf i).toNat)
        case atStart => exact ⟨0, Nat.zero_le _, rfl, by rw [fromPart_zero]; exact own3, Owns.nil _ _, ⟨_, ob3⟩, bx⟩
        case round =>
          clear own3 ob3 bx hbw hbs
          obtain ⟨j, hj, rfl, hown, _, ⟨gb, ob⟩, hbw⟩ := hrel
          by_cases hlj : j < bs.length
          · obtain ⟨⟨x, y⟩, hxy⟩ : ∃ a, bs[j]? = some a := ⟨_, List.getElem?_eq_getElem hlj⟩
            have hd := HBN.out _ (List.mem_of_getElem? hxy)
            simp only at hd
            have HT := Lib.hid (fromPart_succ (p := P) (a := (ax, ay)) hxy)
            have hpl := length_fromPart P bs (ax, ay) j
            obtain ⟨A', c', he, _, _, _, hrb⟩ := ob.reads.is
            cases he
            obtain ⟨bb, offb, rfl, hbb, hcell⟩ := hrb (by omega)
            obtain ⟨e0, e1⟩ := hcell j x y hxy
            have d0 : wr.drew.cell? ⟨b, off + k * 3, none⟩ = some (.int .i64 ax) := (hbw.cell (p := ⟨b, off + k * 3, none⟩) hb).trans a0
            have d1 : wr.drew.cell? ⟨b, off + k * 3 + 1, none⟩ = some (.int .i64 ay) := (hbw.cell (p := ⟨b, off + k * 3 + 1, none⟩) hb).trans a1
            have e0 : wr.drew.cell? ⟨bb, offb + j * 2, none⟩ = some (.int .i64 x) := e0
            have e1 : wr.drew.cell? ⟨bb, offb + j * 2 + 1, none⟩ = some (.int .i64 y) := e1
            have hbD := hbw.drew
            have hoD := hown.below (Below.refl _ _).drew
            have obD := ob.below (Below.refl _ _).drew
            have sb : b < wr.drew.heap.size := Nat.lt_of_lt_of_le hb hbw.size
            have sbb : bb < wr.drew.heap.size := hbb
            have hwx : IntKind.i64.wrap (ax + x) = ax + x := IntWalk.i64_in _ (by omega)
            have hwy : IntKind.i64.wrap (ay + y) = ay + y := IntWalk.i64_in _ (by omega)
            have hm3 : (0 : Int) ≤ (k : Int) := Int.natCast_nonneg _
            have hm4 : (k : Int) < (l.length : Int) := by omega
            have hm5 : (0 : Int) ≤ (j : Int) := Int.natCast_nonneg _
            have hm6 : (j : Int) < (bs.length : Int) := by omega
            clear hxy hcell hrb
            go_wp2_with fail
            go_region_held3 (fun w' => w'.cell? ⟨b, off + k * 3, none⟩ = some (.int .i64 ax) ∧ w'.cell? ⟨b, off + k * 3 + 1, none⟩ = some (.int .i64 ay) ∧ w'.cell? ⟨bb, offb + j * 2, none⟩ = some (.int .i64 x) ∧ w'.cell? ⟨bb, offb + j * 2 + 1, none⟩ = some (.int .i64 y)) (refine ⟨?_, ?_, ?_, ?_⟩ <;> with_reducible assumption)
              ((go_at_call 67; refine (l1Put_any (fromPart P bs (ax, ay) j) _ (ax + x) (ay + y) w.heap.size _ hoD hbD.size (by omega)).mono ?_; rintro e w5 ⟨v5, rfl, o5, b5⟩; have d0 := (b5.cell (p := ⟨b, off + k * 3, none⟩) sb).trans d0; have d1 := (b5.cell (p := ⟨b, off + k * 3 + 1, none⟩) sb).trans d1; have e0 := (b5.cell (p := ⟨bb, offb + j * 2, none⟩) sbb).trans e0; have e1 := (b5.cell (p := ⟨bb, offb + j * 2 + 1, none⟩) sbb).trans e1))
            have ob5 := obD.below b5
            have bx5 := below_step hbD b5
            clear d0 d1 e0 e1
            go_wp2
            go_roundw
            case rel => exact ⟨j + 1, by omega, by go_num, by rw [HT.out]; exact o5, Owns.nil _ _, ⟨_, ob5⟩, bx5⟩
            case measure => simp [intOf]; omega
          · obtain rfl : j = bs.length := by omega
            have hlen2 := length_fromPart P bs (ax, ay) bs.length
            have HS := Lib.hid (show fromPart P bs (ax, ay) bs.length = fromUpto l way (k + 1) by rw [fromUpto_succ HX.out, HPE.out, ← HBS.out]; exact fromPart_all (c := ((ax, ay), ar)))
            rw [HS.out] at hown hlen2
            go_wp2
            go_roundw
            case rel => exact ⟨k + 1, by omega, by go_num, hown, by omega, HALL2.out, hbw⟩
            case measure => simp [intOf]; omega
    · obtain rfl : k = l.length := by omega
      have hall2 : ∀ c ∈ l, ballOk c.2 way = true ∧ picB [c.1] = true := fun c hc => by
        obtain ⟨j, hj⟩ := List.mem_iff_getElem?.1 hc
        exact HALL.out j c (List.getElem?_eq_some_iff.1 hj).1 hj
      rcases h1 : picB (fromUpto l way l.length) with _ | _
      · have HN0 := Lib.hid (show fromOk l way = false by unfold fromOk; rw [← fromUpto_all, h1, Bool.and_false, Bool.and_false])
        have H1 := Lib.hid h1
        clear h1 hall2
        go_wp2_with fail
        refine (gives_is H1.out (specPicture_any _ _ _ hown.reads)).mono ?_
        rintro e w1 ⟨rfl, b1⟩
        have bx := below_step hbw b1
        have HN := Lib.hid HN0.out
        go_wp2
        go_ret2
        exact ⟨_, by rw [HN.out]; rfl, by rw [from_no HN.out]; exact Owns.empty _ _ bx.size, bx.alloc bx.size _⟩
      rcases h2 : way2 way with _ | _
      · have HN0 := Lib.hid (from_bad2 (l := l) h2)
        have H1 := Lib.hid h1
        have H2 := Lib.hid (show decide ((0 : Int) ≤ way ∧ way ≤ 1) = false from h2)
        clear h1 h2 hall2
        go_wp2_with fail
        refine (gives_is H1.out (specPicture_any _ _ _ hown.reads)).mono ?_
        rintro e w1 ⟨rfl, b1⟩
        have bx := below_step hbw b1
        go_wp2_with fail
        refine (gives_is H2.out (l1In_any _ _ _ _)).mono ?_
        rintro e w2 ⟨rfl, b2⟩
        have bx := below_step bx b2
        have HN := Lib.hid HN0.out
        go_wp2
        go_ret2
        exact ⟨_, by rw [HN.out]; rfl, by rw [from_no HN.out]; exact Owns.empty _ _ bx.size, bx.alloc bx.size _⟩
      · have HY := Lib.hid (from_yes h2 hall2 (by rw [← fromUpto_all]; exact h1))
        have H1 := Lib.hid h1
        have H2 := Lib.hid (show decide ((0 : Int) ≤ way ∧ way ≤ 1) = true from h2)
        clear h1 h2 hall2
        go_wp2_with fail
        refine (gives_is H1.out (specPicture_any _ _ _ hown.reads)).mono ?_
        rintro e w1 ⟨rfl, b1⟩
        have bx := below_step hbw b1
        go_wp2_with fail
        refine (gives_is H2.out (l1In_any _ _ _ _)).mono ?_
        rintro e w2 ⟨rfl, b2⟩
        have bx := below_step bx b2
        have own2 := (hown.below b1).below b2
        go_wp2
        go_ret2
        exact ⟨_, by rw [HY.out.1]; rfl, by rw [HY.out.2, ← fromUpto_all]; exact own2, bx⟩
end Go.Proofs.Ytfofmfkdkihhbad
