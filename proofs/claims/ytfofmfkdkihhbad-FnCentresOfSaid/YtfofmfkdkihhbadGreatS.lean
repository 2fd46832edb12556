/- GreatestOf of the model. No conditions but those typed. -/
import Derived.Test.YtfofmfkdkihhbadCentS
import Derived.Test.YtfofmfkdkihhbadGreats
import Derived.Test.YtfofmfkdkihhbadBordS
namespace Go.Proofs.Ytfofmfkdkihhbad
open Go.RowKit Go.Sort

/-- whether none of the first j has c's ball -/
def greatU (all : List Cn) (way : Int) (c : Cn) : Nat → Bool
  | 0 => true
  | j + 1 => greatU all way c j && (decide ((all.getD j c).2 ≤ c.2) || decide ((all.getD j c).2 - c.2 < farI c.1 (all.getD j c).1 way))
theorem greatU_iff {all : List Cn} {way : Int} {c : Cn} : ∀ {j : Nat}, j ≤ all.length → (greatU all way c j = true ↔ ∀ i d, i < j → all[i]? = some d → d.2 ≤ c.2 ∨ d.2 - c.2 < farI c.1 d.1 way)
  | 0, _ => ⟨fun _ i b h => by omega, fun _ => rfl⟩
  | j + 1, hj => by
    unfold greatU
    rw [Bool.and_eq_true, Bool.or_eq_true, decide_eq_true_eq, decide_eq_true_eq, greatU_iff (by omega)]
    have hg : ∀ b, all[j]? = some b → all.getD j c = b := fun b hb => by rw [List.getD_eq_getElem?_getD, hb]; rfl
    constructor
    · rintro ⟨h1, h2⟩ i b hi hb
      by_cases e : i = j
      · subst e; rw [hg b hb] at h2; exact h2
      · exact h1 i b (by omega) hb
    · intro h
      refine ⟨fun i b hi hb => h i b (by omega) hb, ?_⟩
      obtain ⟨b, hb⟩ : ∃ b, all[j]? = some b := ⟨_, List.getElem?_eq_getElem (show j < all.length by omega)⟩
      rw [hg b hb]; exact h j b (by omega) hb
theorem greatU_zero (all : List Cn) (way : Int) (c : Cn) : greatU all way c 0 = true := rfl
theorem greatU_no {all : List Cn} {way : Int} {c : Cn} {j : Nat} (h : greatU all way c j = false) : greatU all way c (j + 1) = false := by
  unfold greatU; rw [h]; rfl
theorem greatU_le {all : List Cn} {way : Int} {c d : Cn} {j : Nat} (h : greatU all way c j = true) (hb : all[j]? = some d) (hle : d.2 ≤ c.2) : greatU all way c (j + 1) = true := by
  unfold greatU
  have : all.getD j c = d := by rw [List.getD_eq_getElem?_getD, hb]; rfl
  rw [h, this, decide_eq_true hle]; rfl
theorem greatU_far {all : List Cn} {way : Int} {c d : Cn} {j : Nat} (h : greatU all way c j = true) (hb : all[j]? = some d) (hle : ¬ d.2 ≤ c.2) : greatU all way c (j + 1) = decide (d.2 - c.2 < farI c.1 d.1 way) := by
  unfold greatU
  have : all.getD j c = d := by rw [List.getD_eq_getElem?_getD, hb]; rfl
  rw [h, this, decide_eq_false hle]; rfl
theorem greatU_all {all : List Cn} {way : Int} {c : Cn} : greatU all way c all.length = greatAt all way c := by
  rw [Bool.eq_iff_iff, greatU_iff (Nat.le_refl _)]
  unfold greatAt
  rw [decide_eq_true_eq]
  constructor
  · intro hu b hb
    obtain ⟨i, hi⟩ := List.mem_iff_getElem?.1 hb
    exact hu i b (List.getElem?_eq_some_iff.1 hi).1 hi
  · intro hl i b _ hb
    exact hl b (List.mem_of_getElem? hb)
theorem filtC_yes {p : List Cn} {f : Cn → Bool} {k : Nat} {a : Cn} (h : p[k]? = some a) (hf : f a = true) : (p.take k).filter f ++ [a] = (p.take (k + 1)).filter f := by
  rw [List.take_add_one, h, List.filter_append]; simp [hf]
theorem filtC_no {p : List Cn} {f : Cn → Bool} {k : Nat} {a : Cn} (h : p[k]? = some a) (hf : f a = false) : (p.take k).filter f = (p.take (k + 1)).filter f := by
  rw [List.take_add_one, h, List.filter_append]; simp [hf]
theorem filtC_len (p : List Cn) (f : Cn → Bool) (k : Nat) : ((p.take k).filter f).length ≤ p.length := by
  refine Nat.le_trans (List.length_filter_le _ _) ?_
  rw [List.length_take]; omega
set_option maxRecDepth 100000 in
set_option maxHeartbeats 3200000 in
theorem specGreatest_any (ps : List Sp) (v : Value) (way : Int) (w : World) (h : Reads w w.heap.size v ps) :
    Calls Try.prog 30 #[v, .int .i64 way] w (GivesC (greatL ps way) w) := by
  obtain ⟨A0, c0', rfl, _, _⟩ := h.slice
  have b0 : Below w.heap.size w (w.alloc (.cells #[] 45)) := (Below.refl _ _).alloc (Nat.le_refl _) _
  have oE := COwns.empty w w.heap.size (Nat.le_refl _)
  unfold greatL
  have hin := centres_in (p := ps) (way := way)
  have hll := centres_len ps way
  obtain ⟨L, hL⟩ : ∃ L, centresL ps way = L := ⟨_, rfl⟩
  have hcS := specCentres_any ps _ way _ (h.kept b0)
  rw [hL] at hin hll hcS ⊢
  obtain ⟨F, hF⟩ : ∃ F, F = greatAt L way := ⟨_, rfl⟩
  have HF := Lib.hid hF
  rw [← hF]
  clear hF hL
  have HIN := Lib.hid hin
  clear hin
  go_enter Try.func30, Try.ntmps30
  go_wp2_with fail
  refine hcS.mono ?_
  rintro e w1 ⟨va, rfl, oa, b1⟩
  obtain ⟨A, c, rfl, hc, hm, hA, hr⟩ := oa.reads.is
  unfold maxLen at hm
  have oE := oE.below b1
  have bb := below_step b0 b1
  clear hcS b0
  by_cases h0 : L.length = 0
  · obtain rfl := List.eq_nil_of_length_eq_zero h0
    go_wp2
    refine wp_loop_rounds 1 ?_
    rw [rounds_succ]
    go_wp2
    go_ret
    exact ⟨_, rfl, oE, bb⟩
  obtain ⟨b, off, rfl, hb, hcell⟩ := hr (by omega)
  have oa : COwns w1 (w.heap.size + 1) (.slice (some ⟨b, off, none⟩) L.length c) L := by simpa using oa
  have hob : (Value.slice (some ⟨w.heap.size, 0, none⟩) 0 0).ownBlock ≠ some b := fun e => by
    have h1 := (oa.lt b rfl).1
    have e1 : some w.heap.size = some b := e
    injection e1 with e1
    omega
  go_wp2
  go_loopw [5, 7] (fun o i wr => ∃ k : Nat, k ≤ L.length ∧ i = .int .i64 k ∧ COwns wr w.heap.size o ((L.take k).filter F) ∧ (COwns wr (w.heap.size + 1) (.slice (some ⟨b, off, none⟩) L.length c) L ∧ o.ownBlock ≠ some b) ∧ Below w.heap.size w wr) (fun _ i _ => L.length - (intOf i).toNat)
  case atStart => exact ⟨0, Nat.zero_le _, rfl, oE, ⟨oa, hob⟩, bb⟩
  case round =>
    clear oE bb hb hcell oa hob
    obtain ⟨k, hk, rfl, hown, ⟨oa, hob⟩, hbb⟩ := hrel
    by_cases hlt : k < L.length
    · obtain ⟨⟨⟨ax, ay⟩, ar⟩, hxy⟩ : ∃ a, L[k]? = some a := ⟨_, List.getElem?_eq_getElem hlt⟩
      obtain ⟨A', c', he, _, _, _, hr⟩ := oa.reads.is
      cases he
      obtain ⟨b', off', he, hb, hcell⟩ := hr (by omega)
      cases he
      obtain ⟨a0, a1, a2⟩ := hcell k ax ay ar hxy
      have HX := Lib.hid hxy
      have hia := HIN.out _ (List.mem_of_getElem? hxy)
      have hia1 := hia.lo
      have hia2 := hia.hi
      simp only at hia1 hia2
      clear hxy
      go_wp2
      go_loopw [8, 9] (fun l i wr' => ∃ j : Nat, j ≤ L.length ∧ i = .int .i64 j ∧ l = .bool (greatU L way ((ax, ay), ar) j) ∧ Below wr.heap.size wr wr') (fun _ i _ => L.length - (intOf i).toNat)
      case atStart => exact ⟨0, Nat.zero_le _, rfl, by rw [greatU_zero], Below.refl _ _⟩
      case round =>
        obtain ⟨j, hj, rfl, rfl, hb2⟩ := hrel
        have hbs2 := hb2.size
        by_cases hlj : j < L.length
        · rcases hal : greatU L way ((ax, ay), ar) j with _ | _
          · have hN := Lib.hid (greatU_no hal)
            clear hal
            go_wp2
            refine wp_region_quiet_below (by kernel_rfl) (by kernel_rfl) ?_
            repeat (go_big_quiet_step (first | fail))
            refine wpQuiet_nil ?_
            intro _ hw'
            obtain ⟨⟨dq, osq⟩, hw''⟩ := hw'
            subst hw''
            go_wp2
            go_roundw
            case rel => exact ⟨j + 1, by omega, by go_num, by rw [hN.out], hb2.trans ((below_regrown _ _ _).mono hbs2)⟩
            case measure => simp [intOf]; omega
          · obtain ⟨⟨⟨x, y⟩, r⟩, hxy⟩ : ∃ a, L[j]? = some a := ⟨_, List.getElem?_eq_getElem hlj⟩
            obtain ⟨d0, d1, d2⟩ := hcell j x y r hxy
            have hib := HIN.out _ (List.mem_of_getElem? hxy)
            have hib1 := hib.lo
            have hib2 := hib.hi
            simp only at hib1 hib2
            have hw2 := hb2
            have f0 := cell_regrown ((hw2.cell (p := ⟨b, off + k * 3, none⟩) hb).trans a0)
            have f1 := cell_regrown ((hw2.cell (p := ⟨b, off + k * 3 + 1, none⟩) hb).trans a1)
            have f2 := cell_regrown ((hw2.cell (p := ⟨b, off + k * 3 + 2, none⟩) hb).trans a2)
            have f3 := cell_regrown ((hw2.cell (p := ⟨b, off + j * 3, none⟩) hb).trans d0)
            have f4 := cell_regrown ((hw2.cell (p := ⟨b, off + j * 3 + 1, none⟩) hb).trans d1)
            have f5 := cell_regrown ((hw2.cell (p := ⟨b, off + j * 3 + 2, none⟩) hb).trans d2)
            have hm3 : (0 : Int) ≤ (j : Int) := Int.natCast_nonneg _
            have hm4 : (j : Int) < (L.length : Int) := by omega
            have hm5 : (0 : Int) ≤ (k : Int) := Int.natCast_nonneg _
            have hm6 : (k : Int) < (L.length : Int) := by omega
            by_cases hle : r ≤ ar
            · have hN := Lib.hid (greatU_le hal hxy hle)
              have hd : decide (r ≤ ar) = true := decide_eq_true hle
              clear hal hxy d0 d1 d2
              go_wp2
              refine wp_region_quiet_below (by kernel_rfl) (by kernel_rfl) ?_
              repeat (go_big_quiet_step (first | fail))
              refine wpQuiet_nil ?_
              intro _ hw'
              obtain ⟨⟨dq, osq⟩, hw''⟩ := hw'
              subst hw''
              go_wp2
              go_roundw
              case rel => exact ⟨j + 1, by omega, by go_num, by rw [hN.out], hb2.trans ((below_regrown _ _ _).mono hbs2)⟩
              case measure => simp [intOf]; omega
            · have hN := Lib.hid (greatU_far hal hxy hle)
              have hd : decide (r ≤ ar) = false := decide_eq_false hle
              have hwx : IntKind.i64.wrap (r - ar) = r - ar := IntWalk.i64_in _ (by omega)
              obtain ⟨fd, hfd⟩ : ∃ fd, farI (ax, ay) (x, y) way = fd := ⟨_, rfl⟩
              have HFD := Lib.hid hfd
              have HI1 := Lib.hid (And.intro hia.inr hib.inr)
              clear hal hxy d0 d1 d2 hfd hia hib
              go_wp2
              refine wp_region_quiet_below (by kernel_rfl) (by kernel_rfl) ?_
              repeat (go_big_quiet_step (first | (go_at_call 61; with_reducible exact gives_regrown (fun w1 _ => far_lit HFD.out HI1.out.1 HI1.out.2) _ _)))
              refine wpQuiet_nil ?_
              intro _ hw'
              obtain ⟨⟨dq, osq⟩, hw''⟩ := hw'
              subst hw''
              go_wp2
              go_roundw
              case rel => exact ⟨j + 1, by omega, by go_num, by rw [hN.out, HFD.out], hb2.trans ((below_regrown _ _ _).mono hbs2)⟩
              case measure => simp [intOf]; omega
        · obtain rfl : j = L.length := by omega
          rw [greatU_all]
          have bw2 := hbb.trans (hb2.mono hbb.size)
          have oa2 := oa.below hb2
          have own2 := hown.below hb2
          rcases hf : greatAt L way ((ax, ay), ar) with _ | _
          · have HT := Lib.hid (filtC_no (f := F) HX.out (by rw [HF.out]; exact hf))
            clear hf
            go_wp2
            go_roundw
            case rel => exact ⟨k + 1, by omega, by go_num, by rw [← HT.out]; exact own2, ⟨oa2, hob⟩, bw2⟩
            case measure => simp [intOf]; omega
          · have HT := Lib.hid (filtC_yes (f := F) HX.out (by rw [HF.out]; exact hf))
            clear hf
            have d0 := (hb2.cell (p := ⟨b, off + k * 3, none⟩) hb).trans a0
            have d1 := (hb2.cell (p := ⟨b, off + k * 3 + 1, none⟩) hb).trans a1
            have d2 := (hb2.cell (p := ⟨b, off + k * 3 + 2, none⟩) hb).trans a2
            have hlen := filtC_len L F k
            have o3 := own2.below (box_below wr #[.int .i64 ax, .int .i64 ay, .int .i64 ar] 45)
            have s2 := bw2.size
            go_wp2_with (at_builtin; refine wpList_append_cents (m := [((ax, ay), ar)]) o3 (CReads.one (g := wr.heap.size) (by simp [go_sem]) (by simp [go_sem]) (by simp [go_sem])) (by simp only [List.length_cons, List.length_nil]; omega) (by simp only [World.size_alloc]; omega) rfl (.tmp 67) (.tmp 72) rfl rfl rfl ?_)
            intro v4 w4 o4 g4 hv4
            have bw4 := o3.below_app (bw2.alloc s2 _) (by simp only [World.size_alloc]; omega) g4
            have oa3 := oa2.below (box_below wr #[.int .i64 ax, .int .i64 ay, .int .i64 ar] 45)
            have oa4 := oa3.grown g4 (.inr (fun e => hob e.symm))
            have hbl := (oa2.lt b rfl).2
            have hob4 : v4.ownBlock ≠ some b := by
              rcases hv4 with e | e
              · rw [e]; exact hob
              · rw [e]; intro k; injection k with k; (try simp only [World.size_alloc] at k); omega
            go_wp2
            go_roundw
            case rel => exact ⟨k + 1, by omega, by go_num, by rw [← HT.out]; exact o4, ⟨oa4, hob4⟩, bw4⟩
            case measure => simp [intOf]; omega
    · obtain rfl : k = L.length := by omega
      rw [List.take_length] at hown
      go_wp2
      go_ret
      exact ⟨_, rfl, hown, hbb⟩
theorem great_len (p : List Sp) (way : Int) : (greatL p way).length ≤ 60 := Nat.le_trans (List.length_filter_le _ _) (centres_len p way)
end Go.Proofs.Ytfofmfkdkihhbad
