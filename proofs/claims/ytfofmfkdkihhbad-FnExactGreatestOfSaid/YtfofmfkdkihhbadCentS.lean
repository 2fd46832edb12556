/- CentresOf of the model. No conditions but those typed. -/
import Derived.Test.YtfofmfkdkihhbadRadS
import Derived.Test.YtfofmfkdkihhbadCents
import Derived.Deep.RegionHeld3
namespace Go.Proofs.Ytfofmfkdkihhbad
open Go.RowKit Go.Sort

def centUpto (p : List Sp) (way : Int) (k : Nat) : List Cn := (p.take k).map fun a => (a, radN p a way)
theorem centUpto_zero (p : List Sp) (way : Int) : centUpto p way 0 = [] := rfl
theorem centUpto_succ {p : List Sp} {way : Int} {k : Nat} {a : Sp} (h : p[k]? = some a) : centUpto p way k ++ [(a, radN p a way)] = centUpto p way (k + 1) := by
  unfold centUpto
  rw [List.take_add_one, h, List.map_append]; rfl
theorem length_centUpto (p : List Sp) (way : Int) (k : Nat) : (centUpto p way k).length ≤ p.length := by
  unfold centUpto; rw [List.length_map]; exact List.length_take_le' _ _
theorem centUpto_all {p : List Sp} {way : Int} (h : picB p = true) (k : way2 way = true) : centUpto p way p.length = centresL p way := by
  unfold centUpto; rw [List.take_length, centres_yes h k]
theorem specRadius_lit {n : Int} {ps : List Sp} {v : Value} {ax ay way : Int} {w : World} (hk : radI ps (ax, ay) way = n) (h : Reads w w.heap.size v ps) :
    Calls Try.prog 12 #[v, .agg #[.int .i64 ax, .int .i64 ay], .int .i64 way] w (Gives (.int .i64 n) w) := by
  subst hk; exact specRadius_any ps v ax ay way w h
set_option maxRecDepth 100000 in
set_option maxHeartbeats 1600000 in
theorem specCentres_any (ps : List Sp) (v : Value) (way : Int) (w : World) (h : Reads w w.heap.size v ps) :
    Calls Try.prog 22 #[v, .int .i64 way] w (GivesC (centresL ps way) w) := by
  obtain ⟨A, c, rfl, hc, hm, hA, hr⟩ := h.is
  unfold maxLen at hm
  have b0 : Below w.heap.size w (w.alloc (.cells #[] 45)) := (Below.refl _ _).alloc (Nat.le_refl _) _
  have oE := COwns.empty w w.heap.size (Nat.le_refl _)
  by_cases h0 : ps.length = 0
  · obtain rfl := List.eq_nil_of_length_eq_zero h0
    have e : centresL [] way = [] := by unfold centresL; split <;> rfl
    rw [e]
    go_enter Try.func22, Try.ntmps22
    go_wp2
    refine wp_loop_rounds 1 ?_
    rw [rounds_succ]
    go_wp2
    go_ret
    exact ⟨_, rfl, oE, b0⟩
  have hlp : 0 < ps.length := by omega
  have hd : decide (0 < ps.length) = true := decide_eq_true hlp
  have hr0 := h.kept b0
  rcases hp : picB ps with _ | _
  · rw [centres_no (by rw [hp]; rfl)]
    have HP := Lib.hid hp
    clear hp
    go_enter Try.func22, Try.ntmps22
    go_wp2
    refine wp_loop_rounds 1 ?_
    rw [rounds_succ]
    go_wp2_with fail
    refine (gives_is HP.out (specPicture_any ps _ _ hr0)).mono ?_
    rintro e w1 ⟨rfl, b1⟩
    go_wp2
    go_ret
    exact ⟨_, rfl, oE.below b1, below_step b0 b1⟩
  rcases hw : way2 way with _ | _
  · rw [centres_no (by rw [hw, Bool.and_false])]
    have HP := Lib.hid hp
    have H2 := Lib.hid (show decide ((0 : Int) ≤ way ∧ way ≤ 1) = false from hw)
    clear hp hw
    go_enter Try.func22, Try.ntmps22
    go_wp2
    refine wp_loop_rounds 1 ?_
    rw [rounds_succ]
    go_wp2_with fail
    refine (gives_is HP.out (specPicture_any ps _ _ hr0)).mono ?_
    rintro e w1 ⟨rfl, b1⟩
    go_wp2_with fail
    refine (gives_is H2.out (l1In_any _ _ _ _)).mono ?_
    rintro e w2 ⟨rfl, b2⟩
    go_wp2
    go_ret
    exact ⟨_, rfl, (oE.below b1).below b2, below_step (below_step b0 b1) b2⟩
  · have HE := Lib.hid (centUpto_all hp hw)
    have HP := Lib.hid hp
    have HR := Lib.hid (fun (a : Sp) (ha : a ∈ ps) => rad_yes (radOk_iff.2 ⟨hp, ha, hw⟩))
    have hpl := (picB_pic hp).1
    have H2 := Lib.hid (show decide ((0 : Int) ≤ way ∧ way ≤ 1) = true from hw)
    obtain ⟨b, off, rfl, hb, hcell⟩ := hr (by omega)
    clear hp hw hr0
    go_enter Try.func22, Try.ntmps22
    go_wp2
    go_loopw [5, 6] (fun o i wr => ∃ k : Nat, k ≤ ps.length ∧ i = .int .i64 k ∧ COwns wr w.heap.size o (centUpto ps way k) ∧ Below w.heap.size w wr) (fun _ i _ => ps.length - (intOf i).toNat)
    case atStart => exact ⟨0, Nat.zero_le _, rfl, oE, b0⟩
    case round =>
      clear oE
      obtain ⟨k, hk, rfl, hown, hbw⟩ := hrel
      by_cases hlk : k < ps.length
      · obtain ⟨⟨x, y⟩, hxy⟩ : ∃ a, ps[k]? = some a := ⟨_, List.getElem?_eq_getElem hlk⟩
        obtain ⟨c0, c1⟩ := hcell k x y hxy
        have hrad := HR.out _ (List.mem_of_getElem? hxy)
        have HT := Lib.hid (centUpto_succ (way := way) hxy)
        have hlen := length_centUpto ps way k
        obtain ⟨r, hrr⟩ : ∃ r, radN ps (x, y) way = r := ⟨_, rfl⟩
        rw [hrr] at hrad
        have HRR := Lib.hid hrr
        have HRD := Lib.hid hrad
        have HXY := Lib.hid hxy
        clear hrr hrad hxy
        go_wp2_with fail
        refine (gives_is HP.out (specPicture_any ps _ _ (h.kept hbw))).mono ?_
        rintro e w1 ⟨rfl, b1⟩
        have bb := below_step hbw b1
        have o1 := hown.below b1
        go_wp2_with fail
        refine (gives_is H2.out (l1In_any _ _ _ _)).mono ?_
        rintro e w2 ⟨rfl, b2⟩
        have bb := (below_step bb b2)
        have o2 := o1.below b2
        have bd := bb.drew
        have od := o2.below (Below.refl _ _).drew
        have c0 : w2.drew.cell? ⟨b, off + k * 2, none⟩ = some (.int .i64 x) := (bb.cell (p := ⟨b, off + k * 2, none⟩) hb).trans c0
        have c1 : w2.drew.cell? ⟨b, off + k * 2 + 1, none⟩ = some (.int .i64 y) := (bb.cell (p := ⟨b, off + k * 2 + 1, none⟩) hb).trans c1
        have sb : b < w2.drew.heap.size := Nat.lt_of_lt_of_le hb bb.size
        have hm3 : (0 : Int) ≤ (k : Int) := Int.natCast_nonneg _
        have hm4 : (k : Int) < (ps.length : Int) := by omega
        clear o1 o2 b1 b2 hown hbw
        go_wp2_with fail
        go_region_held3 (fun w' => w'.cell? ⟨b, off + k * 2, none⟩ = some (.int .i64 x) ∧ w'.cell? ⟨b, off + k * 2 + 1, none⟩ = some (.int .i64 y)) (first | (refine ⟨?_, ?_⟩ <;> with_reducible assumption) | go_keep)
          (first
            | (go_at_call 12; refine (specRadius_lit HRD.out (h.kept bd)).mono ?_; rintro e w3 ⟨rfl, hbn⟩; have hsz3 := bd.size; have bd := below_step bd hbn; have od := od.below hbn; have c0 := (hbn.cell (p := ⟨b, off + k * 2, none⟩) sb).trans c0; have c1 := (hbn.cell (p := ⟨b, off + k * 2 + 1, none⟩) sb).trans c1; have sb := Nat.lt_of_lt_of_le sb hbn.size; have ne0 := World.new_ne w3 _ c0; have ne1 := World.new_ne w3 _ c1; have oa := od.below (box_below w3 #[.int .i64 x, .int .i64 y, .int .i64 r] 45); have bal := bd.alloc bd.size (.cells #[.int .i64 x, .int .i64 y, .int .i64 r] 45))
            | (refine step_append_cents (m := [((x, y), r)]) oa (CReads.one (g := w3.heap.size) (by simp [go_sem]) (by simp [go_sem]) (by simp [go_sem])) (by simp only [List.length_cons, List.length_nil]; omega) bal.size (by rfl) _ _ (by rfl) (by rfl) (by rfl) ?_; intro v5 w5 o5 g5 _; have bz := oa.below_app bal bal.size g5; have c0 := (bz.cell (p := ⟨b, off + k * 2, none⟩) hb).trans ((hcell k x y HXY.out).1); have c1 := (bz.cell (p := ⟨b, off + k * 2 + 1, none⟩) hb).trans ((hcell k x y HXY.out).2)))
        go_wp2
        go_roundw
        case rel => exact ⟨k + 1, by omega, by go_num, by rw [← HT.out, HRR.out]; exact o5, bz⟩
        case measure => simp [intOf]; omega
      · obtain rfl : k = ps.length := by omega
        rw [HE.out] at hown
        go_wp2
        go_ret
        exact ⟨_, rfl, hown, hbw⟩
end Go.Proofs.Ytfofmfkdkihhbad
