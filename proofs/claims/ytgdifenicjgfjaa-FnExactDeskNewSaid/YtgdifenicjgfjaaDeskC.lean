/- Copies of desks: Desk.copied, and the model's own copy. No conditions but those typed. -/
import Derived.Test.YtgdifenicjgfjaaDeskT
import Derived.Test.YtgdifenicjgfjaaClone
namespace Go.Proofs.Ytgdifenicjgfjaa
open Go.RowKit Go.Sort

/-- what is written into a slice of slices leaves pictures as they were -/
theorem OZ.grownV {w w' : World} {lo hi b : Nat} {u v : Value} {p : List Sp} {vs : List Value} (h : OZ w lo hi u p) (hv : VOwns 23 w b v vs) (hg : w.grownBy w' v.ownBlock) : OZ w' lo hi u p := by
  rcases h with ⟨h, k⟩ | ⟨e, h, k⟩
  · exact .inl ⟨h, k.nilAny (Nat.le_refl _)⟩
  · exact .inr ⟨e, h.grown hg (hv.apartO parts_apart h), k⟩
theorem InZ.grownV {w w' : World} {lo hi b : Nat} {v : Value} {us vs : List Value} {ls : List (List Sp)} (h : InZ w lo hi us ls) (hv : VOwns 23 w b v vs) (hg : w.grownBy w' v.ownBlock) : InZ w' lo hi us ls :=
  ⟨h.len, fun k p hp => by obtain ⟨u, h1, h2⟩ := h.own k p hp; exact ⟨u, h1, h2.grownV hv hg⟩, h.ne⟩
set_option maxRecDepth 100000 in
set_option maxHeartbeats 1600000 in
theorem copied_any (d : Dk) (v : Value) (w : World) (h : DeskR w w.heap.size v d) (h1 : d.1.length ≤ 1000000) (h2 : ∀ p ∈ d.2, p.length ≤ 1000000) (h3 : d.2.length ≤ 1000000) :
    Calls Try.prog 33 #[v] w (GivesDesk d w) := by
  obtain ⟨n, p, rfl, rn, rp⟩ := h
  obtain ⟨An, cn, rfl, _, _⟩ := rn.slice
  obtain ⟨A, c, vs, rfl, hc, hm, hvl, hcell, hin⟩ := rp.is
  unfold maxLen at hm
  obtain ⟨W, hW⟩ : ∃ W, W = (w.alloc (.cells #[.slice An d.1.length cn, .slice A d.2.length c] 26)).alloc (.cells #[.slice none 0 0, .slice none 0 0] 26) := ⟨_, rfl⟩
  have b0 : Below w.heap.size w W := by rw [hW]; exact (box_below w _ _).alloc (by simp) _
  have q0 : W.cell? ⟨w.heap.size, 0, none⟩ = some (.slice An d.1.length cn) := by rw [hW]; simp [go_sem, World.cell?_alloc_past]
  have q1 : W.cell? ⟨w.heap.size, 1, none⟩ = some (.slice A d.2.length c) := by rw [hW]; simp [go_sem, World.cell?_alloc_past]
  have s0 : W.heap.size = w.heap.size + 2 := by rw [hW]; simp
  have r1 : W.heap[w.heap.size + 1]? = some (.cells #[.slice none 0 0, .slice none 0 0] 26 (0, 0)) := by
    rw [hW]
    have h1 := heap_alloc_new (w.alloc (.cells #[.slice An d.1.length cn, .slice A d.2.length c] 26)) (.cells #[.slice none 0 0, .slice none 0 0] 26)
    rw [World.size_alloc] at h1
    exact h1
  have hsz := Lib.hid s0
  go_enter Try.func33, Try.ntmps33
  go_wp2_with (first | (rw [← hW]; clear hW) | fail)
  go_loopw [3, 9] (fun s i wr => ∃ (k : Nat) (us : List Value), k ≤ d.2.length ∧ i = .int .i64 k ∧ us.length = k ∧ VOwns 23 wr (w.heap.size + 2) s us ∧ InZ wr (w.heap.size + 2) wr.heap.size us (d.2.take k) ∧ Below W.heap.size W wr) (fun _ i _ => d.2.length - (intOf i).toNat)
  case atStart => exact ⟨0, [], Nat.zero_le _, rfl, rfl, VOwns.nil _ _ _, InZ.nil _ _ _, Below.refl _ _⟩
  case round =>
    obtain ⟨k, us, hk, rfl, hul, hvo, hvi, hbw⟩ := hrel
    have hbs := hbw.size
    have hw2 : w.heap.size + 2 ≤ wr.heap.size := by omega
    have hbb := below_step b0 hbw
    by_cases hlt : k < d.2.length
    · obtain ⟨p, hp⟩ : ∃ a, d.2[k]? = some a := ⟨_, List.getElem?_eq_getElem hlt⟩
      obtain ⟨b, off, rfl, hb, hcv⟩ := hcell (by omega)
      obtain ⟨u, hu, hru⟩ := hin k _ hp
      have d0 := (hbb.cell (p := ⟨b, off + k, none⟩) hb).trans (hcv k _ hu)
      have hru := hru.kept hbb
      have hm3 : (0 : Int) ≤ (k : Int) := Int.natCast_nonneg _
      have hm4 : (k : Int) < (d.2.length : Int) := by omega
      have hpl := h2 p (List.mem_of_getElem? hp)
      have HP := Lib.hid hp
      have HU := Lib.hid hul
      have hul3 : us.length ≤ 1000000 := by omega
      clear hp hu hul s0
      go_wp2_with fail
      refine (clone_any p _ wr hru hpl).mono ?_
      rintro e w2 ⟨v2, rfl, o2, b2⟩
      obtain ⟨A2, c2, rfl, _, _⟩ := o2.reads.slice
      have hs2 := b2.size
      have b3 := box_below w2 #[.slice A2 p.length c2] 23
      have hvo := (hvo.below b2).below b3
      have o3 := OZ.of (hi := w2.heap.size) o2 (Nat.le_refl _)
      have hI := (hvi.keptBy (w' := w2) (fun g _ h2 _ => b2.block g h2)).snoc o3 hw2 hs2
      have hI := hI.keptBy (w' := w2.alloc (.cells #[.slice A2 p.length c2] 23)) (fun g _ h2 _ => b3.block g h2)
      rw [← take_succ_at HP.out] at hI
      have bbx := below_step hbw (below_step b2 b3)
      have hbase : w.heap.size + 2 ≤ (w2.alloc (.cells #[.slice A2 p.length c2] 23)).heap.size := by have := b3.size; omega
      have c0 : (w2.alloc (.cells #[.slice A2 p.length c2] 23)).cell? ⟨w2.heap.size, 0, none⟩ = some (.slice A2 p.length c2) := by simp [go_sem]
      clear hvi o3 o2 b2 b3
      go_wp2_with (at_builtin; refine wpList_append_Part hvo c0 rfl (by omega) hbase rfl (.tmp 13) (.tmp 16) rfl rfl rfl ?_)
      intro v4 w4 o4 g4 hv4
      have hI4 := (hI.grownV hvo g4).wider (Nat.le_refl _) (show w2.heap.size ≤ w4.heap.size by have := g4.size; have := World.size_alloc w2 (.cells #[.slice A2 p.length c2] 23); omega)
      have b4 := bbx.grown g4 (by have := bbx.size; omega) (fun g hg => by have := (hvo.lt g hg).1; have := hsz.out; omega)
      clear hI hvo bbx g4
      go_wp2
      go_roundw
      case rel => exact ⟨k + 1, _, by omega, by go_num, by rw [List.length_append, HU.out]; rfl, o4, hI4, b4⟩
      case measure => simp [intOf]; omega
    · obtain rfl : k = d.2.length := by omega
      rw [List.take_of_length_le (Nat.le_refl _)] at hvi
      have q0 := (hbw.cell (p := ⟨w.heap.size, 0, none⟩) (by simp only []; omega)).trans q0
      have r1 := (hbw.block (w.heap.size + 1) (by omega)).trans r1
      obtain ⟨As, cs, rfl, _, _⟩ := hvo.shape
      have HU := Lib.hid hul
      clear hul s0
      go_wp2_with fail
      refine (clone_any d.1 _ wr (rn.kept hbb) h1).mono ?_
      rintro e w2 ⟨v2, rfl, o2, b2⟩
      obtain ⟨A2, c2, rfl, _, _⟩ := o2.reads.slice
      have hs2 := b2.size
      have r1 := (b2.block (w.heap.size + 1) (by omega)).trans r1
      obtain ⟨d10, d11⟩ := cells_of_row r1
      have f10 := frozen_of_row w2 _ 0 _ _ r1
      have f11 := frozen_of_row w2 _ 1 _ _ r1
      have z4 : w.heap.size + 1 < w2.heap.size := by omega
      have hvo := hvo.below b2
      have hV := (VZ.of hvo (Nat.le_refl _)).keptBy (w' := (w2.setCell ⟨w.heap.size + 1, 0, none⟩ (.slice A2 d.1.length c2)).setCell ⟨w.heap.size + 1, 1, none⟩ (.slice As us.length cs)) (fun g h1 _ _ => (heap_setCell_other _ _ _ _ (by simp only []; omega)).trans (heap_setCell_other _ _ _ _ (by simp only []; omega)))
      have o3 := OZ.of (hi := w2.heap.size) o2 (Nat.le_refl _)
      have hI := ((hvi.keptBy (w' := w2) (fun g _ h2 _ => b2.block g h2)).cons o3 hw2 hs2).keptBy (w' := (w2.setCell ⟨w.heap.size + 1, 0, none⟩ (.slice A2 d.1.length c2)).setCell ⟨w.heap.size + 1, 1, none⟩ (.slice As us.length cs)) (fun g h1 _ _ => (heap_setCell_other _ _ _ _ (by simp only []; omega)).trans (heap_setCell_other _ _ _ _ (by simp only []; omega)))
      have hsz2 : ((w2.setCell ⟨w.heap.size + 1, 0, none⟩ (.slice A2 d.1.length c2)).setCell ⟨w.heap.size + 1, 1, none⟩ (.slice As us.length cs)).heap.size = w2.heap.size := by simp [World.setCell]
      have bb4 := ((below_step hbb b2).setCell (p := ⟨w.heap.size + 1, 0, none⟩) (by simp only []; omega) (.slice A2 d.1.length c2)).setCell (p := ⟨w.heap.size + 1, 1, none⟩) (by simp only []; omega) (.slice As us.length cs)
      have hO : DeskO ((w2.setCell ⟨w.heap.size + 1, 0, none⟩ (.slice A2 d.1.length c2)).setCell ⟨w.heap.size + 1, 1, none⟩ (.slice As us.length cs)) w.heap.size ((w2.setCell ⟨w.heap.size + 1, 0, none⟩ (.slice A2 d.1.length c2)).setCell ⟨w.heap.size + 1, 1, none⟩ (.slice As us.length cs)).heap.size (.agg #[.slice A2 d.1.length c2, .slice As us.length cs]) d := by
        rw [hsz2]
        exact ⟨_, _, us, rfl, hV.wider (by omega) (Nat.le_refl _), hI.wider (by omega) (Nat.le_refl _), by rw [hsz2]; exact Nat.le_refl _⟩
      clear hV hI hvo hvi o2 o3 hbb b2 hbw
      rw [← HU.out] at hk ⊢
      go_wp2
      refine bodyPost_ret (v := .agg #[.slice A2 d.1.length c2, .slice As us.length cs]) (by simp [results, Try.results33, go_sem, *]) rfl ⟨_, rfl, hO, bb4⟩
end Go.Proofs.Ytgdifenicjgfjaa
