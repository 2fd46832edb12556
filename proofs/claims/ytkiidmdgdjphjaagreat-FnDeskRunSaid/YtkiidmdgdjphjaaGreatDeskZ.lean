/- Texts of one kind, merged: DeskD, DeskS, DeskV, DeskZ. No conditions but those that stand in each theorem. -/
import Derived.Test.YtkiidmdgdjphjaaGreatDeskG
import Derived.Deep.RegionLaw
import Derived.Deep.CutRange
import Derived.Deep.CutBlock
import Derived.Test.YtkiidmdgdjphjaaGreatMadeT
namespace Go.Proofs.YtkiidmdgdjphjaaGreat
/-! ### DeskD -/
section
open Go.RowKit Go.Sort

theorem one_at' (w : World) (v : Value) (T : TypeId) : (w.alloc (.cells #[v] T)).cell? ⟨w.heap.size, 0, none⟩ = some v := by simp [go_sem]

/-- a desk of the call's own whose pictures of before lie at the head of their block -/
def DeskV (w : World) (lo hi : Nat) (v : Value) (d : Dk) : Prop := ∃ n p vs, v = .agg #[n, p] ∧ (VOwns 23 w lo p vs ∧ ∀ g, p.ownBlock = some g → g < hi) ∧ InZ w lo hi (n :: vs) (d.1 :: d.2) ∧ hi ≤ w.heap.size
theorem VZ.of' {w : World} {lo hi : Nat} {v : Value} {vs : List Value} (h : VOwns 23 w lo v vs) (hh : ∀ g, v.ownBlock = some g → g < hi) : VZ w lo hi v vs := by
  obtain ⟨A, c, h1, h2, h3, h4⟩ := VZ.of h (Nat.le_refl _)
  subst h1
  refine ⟨A, c, rfl, h2, h3, fun h0 => ?_⟩
  obtain ⟨g, off, cur, h5, h6, h7, h8⟩ := h4 h0
  subst h5
  exact ⟨g, off, cur, rfl, ⟨h6.1, hh g rfl⟩, h7, h8⟩
theorem DeskV.o {w : World} {lo hi : Nat} {v : Value} {d : Dk} (h : DeskV w lo hi v d) : DeskO w lo hi v d := by
  obtain ⟨n, p, vs, e, ⟨h1, h2⟩, h3, h4⟩ := h
  exact ⟨n, p, vs, e, VZ.of' h1 h2, h3, h4⟩
theorem DeskV.keptBy {w w' : World} {lo hi : Nat} {v : Value} {d : Dk} (h : DeskV w lo hi v d) (hs : w.heap.size ≤ w'.heap.size) (hk : ∀ g, lo ≤ g → g < hi → g < w.heap.size → w'.heap[g]? = w.heap[g]?) : DeskV w' lo hi v d := by
  obtain ⟨n, p, vs, e, ⟨h1, h2⟩, h3, h4⟩ := h
  exact ⟨n, p, vs, e, ⟨h1.keptBy fun g hg => hk g (h1.lt g hg).1 (h2 g hg) (h1.lt g hg).2, h2⟩, h3.keptBy hk, Nat.le_trans h4 hs⟩
theorem DeskV.below {w w' : World} {lo hi : Nat} {v : Value} {d : Dk} (h : DeskV w lo hi v d) (hb : Below w.heap.size w w') : DeskV w' lo hi v d := h.keptBy hb.size fun g _ _ hg => hb.block g hg
theorem DeskV.wider {w : World} {lo lo' hi hi' : Nat} {v : Value} {d : Dk} (h : DeskV w lo hi v d) (hl : lo' ≤ lo) (hh : hi ≤ hi') (hs : hi' ≤ w.heap.size) : DeskV w lo' hi' v d := by
  obtain ⟨n, p, vs, e, ⟨h1, h2⟩, h3, h4⟩ := h
  exact ⟨n, p, vs, e, ⟨h1.lower hl, fun g hg => Nat.lt_of_lt_of_le (h2 g hg) hh⟩, h3.wider hl hh, hs⟩
theorem DeskV.zero (w : World) (lo hi : Nat) (hl : lo ≤ hi) (hh : hi ≤ w.heap.size) : DeskV w lo hi (.agg #[.slice none 0 0, .slice none 0 0]) ([], []) :=
  ⟨_, _, [], rfl, ⟨VOwns.nil _ _ _, fun g hg => by cases hg⟩, (InZ.nil w lo lo).cons (OZ.empty w lo hi none) (Nat.le_refl _) hl, hh⟩
theorem DeskV.boxed {w w' : World} {r lo : Nat} {v X Y : Value} {d : Dk} (h : DeskV w' lo w'.heap.size v d) (hr : r < lo) (hw : w.heap.size ≤ lo) : DeskV ((w'.setCell ⟨r, 0, none⟩ X).setCell ⟨r, 1, none⟩ Y) w.heap.size ((w'.setCell ⟨r, 0, none⟩ X).setCell ⟨r, 1, none⟩ Y).heap.size v d := by
  have h2 : DeskV ((w'.setCell ⟨r, 0, none⟩ X).setCell ⟨r, 1, none⟩ Y) lo w'.heap.size v d := h.keptBy (by simp) fun g h1 _ _ => set2_other (by omega)
  exact h2.wider hw (by simp) (Nat.le_refl _)
/-- a desk of the call's own; one of fewer pictures of before than may be has them at the head of their block -/
def DeskQ (w : World) (lo hi : Nat) (v : Value) (d : Dk) : Prop := DeskO w lo hi v d ∧ (d.2.length ≤ 7 → DeskV w lo hi v d)
theorem DeskV.q {w : World} {lo hi : Nat} {v : Value} {d : Dk} (h : DeskV w lo hi v d) : DeskQ w lo hi v d := ⟨h.o, fun _ => h⟩
def GivesDeskQ (d : Dk) (b : Bool) (w : World) (e : Ending) (w' : World) : Prop := ∃ v', e = .returned (.tuple #[v', .bool b]) ∧ DeskQ w' w.heap.size w'.heap.size v' d ∧ Below w.heap.size w w'
theorem GivesDeskQ.two {d : Dk} {b : Bool} {w w' : World} {e : Ending} (h : GivesDeskQ d b w e w') : GivesDesk2 d b w e w' := by
  obtain ⟨v, h1, h2, h3⟩ := h
  exact ⟨v, h1, h2.1, h3⟩
/-- a round of the copy: one picture more -/
theorem copyRound {W5 wr w6 w7 : World} {O : Nat} {s v6 v7 x : Value} {us : List Value} {ls : List (List Sp)} {p : List Sp} (hvi : InZ wr (O + 1) wr.heap.size us ls) (hbw : Below O W5 wr) (hO1 : O + 1 ≤ wr.heap.size) 
    (b6 : Below wr.heap.size wr w6) (o6 : Owns w6 wr.heap.size v6 p) (hv6 : VOwns 23 (w6.alloc (.cells #[v6] 23)) (O + 1) s us) (o7 : VOwns 23 w7 (O + 1) v7 (us ++ [v6])) (g7 : (w6.alloc (.cells #[v6] 23)).grownBy w7 s.ownBlock)
    (t7 : w7.heap[O]? = some (.cells #[x, s] 26 (0, 0))) :
    (w7.setCell ⟨O, 1, none⟩ v7).heap[O]? = some (.cells #[x, v7] 26 (0, 0)) ∧ VOwns 23 (w7.setCell ⟨O, 1, none⟩ v7) (O + 1) v7 (us ++ [v6]) ∧ InZ (w7.setCell ⟨O, 1, none⟩ v7) (O + 1) (w7.setCell ⟨O, 1, none⟩ v7).heap.size (us ++ [v6]) (ls ++ [p]) ∧ Below O W5 (w7.setCell ⟨O, 1, none⟩ v7) := by
  have hs6 := b6.size
  have bal6 := box_below w6 #[v6] 23
  have hz6 := bal6.size
  have hz7 := g7.size
  have o3 := OZ.of (hi := w6.heap.size) o6 (Nat.le_refl _)
  have hI := (((hvi.keptBy (w' := w6) (fun g _ h2 _ => b6.block g h2)).snoc o3 hO1 hs6).keptBy (w' := w6.alloc (.cells #[v6] 23)) (fun g _ h2 _ => bal6.block g h2)).grownV hv6 g7
  have hI := hI.keptBy (w' := w7.setCell ⟨O, 1, none⟩ v7) (fun g h1 _ _ => heap_setCell_other _ _ _ _ (show g ≠ O by omega))
  have hz8 : (w7.setCell ⟨O, 1, none⟩ v7).heap.size = w7.heap.size := by simp [World.setCell]
  refine ⟨(heap_setCell_same w7 O 1 _ _ v7 t7).trans rfl, o7.setOther (a := ⟨O, 1, none⟩) ?_ v7, hI.wider (Nat.le_refl _) (by omega), (((hbw.trans (b6.mono (by omega))).trans (bal6.mono (by omega))).grown g7 (by have := World.size_alloc w6 (.cells #[v6] 23); omega) (fun g hg => by have := (hv6.lt g hg).1; omega)).setCell (p := ⟨O, 1, none⟩) (Nat.le_refl O) _⟩
  cases hq : v7.ownBlock with
  | none => exact .inl rfl
  | some j => exact .inr (fun e => by have := (o7.lt j hq).1; injection e with e; have e2 : j = O := e; omega)
set_option maxRecDepth 100000 in
set_option maxHeartbeats 1600000 in
theorem l12Copy_any (d : Dk) (v : Value) (w : World) (h : DeskR w w.heap.size v d) (h1 : d.1.length ≤ 1000000) (h2 : ∀ p ∈ d.2, p.length ≤ 1000000) (h3 : d.2.length ≤ 1000000) :
    Calls Tryz.prog 22 #[v] w fun e w' => ∃ v', e = .returned v' ∧ DeskV w' w.heap.size w'.heap.size v' d ∧ Below w.heap.size w w' := by
  obtain ⟨n, p, rfl, rn, rp⟩ := h
  obtain ⟨An, cn, rfl, _, _⟩ := rn.slice
  obtain ⟨A, c, vs, rfl, hc, hm, hvl, hcell, hin⟩ := rp.is
  unfold maxLen at hm
  obtain ⟨W, hW⟩ : ∃ W, W = (w.alloc (.cells #[.slice An d.1.length cn, .slice A d.2.length c] 26)).alloc (.cells #[.slice none 0 0, .slice none 0 0] 26) := ⟨_, rfl⟩
  have b0 : Below w.heap.size w W := by rw [hW]; exact (box_below w _ _).alloc (by simp) _
  have q0 : W.cell? ⟨w.heap.size, 0, none⟩ = some (.slice An d.1.length cn) := by rw [hW]; simp [go_sem, World.cell?_alloc_past]
  have q1 : W.cell? ⟨w.heap.size, 1, none⟩ = some (.slice A d.2.length c) := by rw [hW]; simp [go_sem, World.cell?_alloc_past]
  have s0 : W.heap.size = w.heap.size + 2 := by rw [hW]; simp
  have r1 : W.heap[w.heap.size + 1]? = some (.cells #[.slice none 0 0, .slice none 0 0] 26 (0, 0)) := by
    rw [hW]
    have h1 := heap_alloc_new (w.alloc (.cells #[.slice An d.1.length cn, .slice A d.2.length c] 26)) (.cells #[.slice none 0 0, .slice none 0 0] 26)
    rw [World.size_alloc] at h1
    exact h1
  have bE : Below W.heap.size W (W.alloc (.cells #[] 53)) := box_below _ _ _
  have oE := Owns.empty W W.heap.size (Nat.le_refl _)
  rw [show W.heap.size = w.heap.size + 1 + 1 from s0] at oE bE
  have rE := (rn.kept b0).kept (box_below W #[] 53)
  have qE := (bE.cell (p := ⟨w.heap.size, 0, none⟩) (by simp only []; omega)).trans q0
  have hsz := Lib.hid s0
  go_enter Tryz.func22, Tryz.ntmps22
  go_wp2_with (at_builtin; rw [← hW]; clear hW; refine wpList_append_spots (qs := d.1) oE rE (by simp only [List.length_nil]; omega) (by have := bE.size; omega) rfl (.tmp 5) (.tmp 7) rfl rfl rfl ?_)
  intro v2 w2 o2 g2 hv2
  obtain ⟨A2, c2, rfl, _, _⟩ := o2.reads.slice
  have b2 := oE.below_app bE (by have := bE.size; omega) g2
  have hs2 : w.heap.size + 1 + 1 ≤ w2.heap.size := by have := b2.size; omega
  have q1 := (b2.cell (p := ⟨w.heap.size, 1, none⟩) (by simp only []; omega)).trans q1
  have r1 := (b2.block (w.heap.size + 1) (by omega)).trans r1
  have o2 := OZ.of (hi := w2.heap.size) o2 (Nat.le_refl _)
  obtain ⟨W5, hW5⟩ : ∃ W5, W5 = w2.alloc (.cells #[.slice A2 d.1.length c2, .slice none 0 0] 26) := ⟨_, rfl⟩
  have b5 : Below w2.heap.size w2 W5 := by rw [hW5]; exact box_below _ _ _
  have t5 : W5.heap[w2.heap.size]? = some (.cells #[.slice A2 d.1.length c2, .slice none 0 0] 26 (0, 0)) := by rw [hW5]; exact heap_alloc_new w2 _
  have s5 : w2.heap.size < W5.heap.size := by rw [hW5]; simp
  have o2 := o2.keptBy (w' := W5) (fun g _ h2 _ => b5.block g h2)
  have q1 := (b5.cell (p := ⟨w.heap.size, 1, none⟩) (by simp only []; omega)).trans q1
  have r1 := (b5.block (w.heap.size + 1) (by omega)).trans r1
  have bW := below_step (below_step b0 (b2.mono (by omega))) b5
  clear rE qE oE bE q0 rn
  go_wp2
  rw [← hW5]
  clear hW5
  obtain ⟨O, hO⟩ : ∃ O, w2.heap.size = O := ⟨_, rfl⟩
  rw [hO] at t5 s5 o2 hs2 b5 ⊢
  clear hO g2 hv2 b2
  go_loopw [4] (fun i wr => ∃ (k : Nat) (s : Value) (us : List Value), k ≤ d.2.length ∧ i = .int .i64 k ∧ us.length = k ∧ wr.heap[O]? = some (.cells #[.slice A2 d.1.length c2, s] 26 (0, 0)) ∧ VOwns 23 wr (O + 1) s us ∧ InZ wr (O + 1) wr.heap.size us (d.2.take k) ∧ Below O W5 wr) (fun i _ => d.2.length - (intOf i).toNat)
  case atStart => exact ⟨0, _, [], Nat.zero_le _, rfl, rfl, t5, VOwns.nil _ _ _, InZ.nil _ _ _, Below.refl _ _⟩
  case round =>
    clear t5
    obtain ⟨k, s, us, hk, rfl, hul, ht, hvo, hvi, hbw⟩ := hrel
    have hbs := hbw.size
    have hO1 : O + 1 ≤ wr.heap.size := by omega
    have hbb : Below w.heap.size w wr := bW.trans (hbw.mono (by omega))
    have q1 := (hbw.cell (p := ⟨w.heap.size, 1, none⟩) (by simp only []; omega)).trans q1
    by_cases hlt : k < d.2.length
    · obtain ⟨p, hp⟩ : ∃ a, d.2[k]? = some a := ⟨_, List.getElem?_eq_getElem hlt⟩
      obtain ⟨b, off, rfl, hb, hcv⟩ := hcell (by omega)
      obtain ⟨u, hu, hru⟩ := hin k _ hp
      have d0 := (hbb.cell (p := ⟨b, off + k, none⟩) hb).trans (hcv k _ hu)
      have hru := hru.kept hbb
      obtain ⟨Au, cu, rfl, _, _⟩ := hru.slice
      have hm3 : (0 : Int) ≤ (k : Int) := Int.natCast_nonneg _
      have hm4 : (k : Int) < (d.2.length : Int) := by omega
      have hpl := h2 p (List.mem_of_getElem? hp)
      have HP := Lib.hid hp
      have HU := Lib.hid hul
      have hul3 : us.length ≤ 1000000 := by omega
      obtain ⟨As, cs, rfl, hsl, hsm, _⟩ := hvo.shape
      have c1 := (cell_of_row wr _ 1 _ _ _ ht).trans (show _ = some (Value.slice As us.length cs) from rfl)
      have f1 := frozen_of_row wr _ 1 _ _ ht
      have bal := box_below wr #[] 53
      have oE := (Owns.empty wr wr.heap.size (Nat.le_refl _)).below ((Below.refl _ _).drew)
      have hruE := (hru.kept bal).kept ((Below.refl _ _).drew)
      have hwO : O < wr.heap.size := by omega
      have hwb : b < wr.heap.size := by have := hbb.size; omega
      have hww : w.heap.size < wr.heap.size := by omega
      have d1 := (bal.cell (p := ⟨b, off + k, none⟩) hwb).trans d0
      have q2 := (bal.cell (p := ⟨w.heap.size, 1, none⟩) hww).trans q1
      have c2' := (bal.cell (p := ⟨O, 1, none⟩) hwO).trans c1
      have hvE := (hvo.below bal).below ((Below.refl _ _).drew)
      clear hp hu hul s0
      go_upto_block 1 with fail
      go_cut [4] from 10 to 28 (fun s4 wx => s4 = .int .i64 k ∧ ∃ (s' : Value) (us' : List Value), us'.length = k + 1 ∧ wx.heap[O]? = some (.cells #[.slice A2 d.1.length c2, s'] 26 (0, 0)) ∧ VOwns 23 wx (O + 1) s' us' ∧ InZ wx (O + 1) wx.heap.size us' (d.2.take (k + 1)) ∧ Below O W5 wx)
      case first =>
        go_wp2_with fail
        go_region_law (first
          | (refine step_append_spots (qs := p) oE hruE (by simp only [List.length_nil]; omega) bal.size (by rfl) _ _ (by rfl) (by rfl) (by rfl) ?_; intro v6 w6 o6 g6 _; rw [List.nil_append] at o6; have b6 := oE.below_app (bal.drew) bal.size g6; have d1 := (b6.cell (p := ⟨b, off + k, none⟩) hwb).trans d0; have q2 := (b6.cell (p := ⟨w.heap.size, 1, none⟩) hww).trans q1; have c2' := (b6.cell (p := ⟨O, 1, none⟩) hwO).trans c1; obtain ⟨A6, c6, rfl, _, _⟩ := o6.reads.slice; have bal6 := box_below w6 #[.slice A6 p.length c6] 23; have hs6 := b6.size; have hv6 := (hvo.below b6).below bal6; have e6 : (w6.alloc (.cells #[.slice A6 p.length c6] 23)).cell? ⟨w6.heap.size, 0, none⟩ = some (.slice A6 p.length c6) := one_at' _ _ _; have hz6 := bal6.size; have c3' := (bal6.cell (p := ⟨O, 1, none⟩) (by simp only []; omega)).trans c2')
          | (refine step_append_Part hv6 e6 rfl (by omega) (by omega) (by rfl) _ _ (by rfl) (by rfl) (by rfl) ?_; intro v7 w7 o7 g7 _; have t7 := (g7.block O (by omega) (fun e => by have := (hv6.lt O e.symm).1; omega)).trans ((bal6.block O (by omega)).trans ((b6.block O hwO).trans ht)); have f7 := frozen_of_row w7 _ 1 _ _ t7; have c7 := (cell_of_row w7 _ 1 _ _ _ t7).trans (show _ = some (Value.slice As us.length cs) from rfl); obtain ⟨A7, c7', e7, _, _⟩ := o7.shape; rw [List.length_append, List.length_singleton] at e7; subst e7))
        all_goals
          have R := copyRound hvi hbw hO1 b6 o6 hv6 o7 g7 t7
          rw [← take_succ_at HP.out] at R
          have HL : (us ++ [Value.slice A6 p.length c6]).length = k + 1 := by rw [List.length_append, HU.out]; rfl
          go_wp2_with fail
          go_meet
          case rel => exact ⟨rfl, _, _, HL, R⟩
      case rest =>
        obtain ⟨rfl, s', us', hul, t8, o8, hI, b8⟩ := hcut
        have HL := Lib.hid hul
        clear hul
        go_wp2
        go_roundw
        case rel => exact ⟨k + 1, _, _, by omega, by go_num, HL.out, t8, o8, hI, b8⟩
        case measure => simp [intOf]; omega
    · obtain rfl : k = d.2.length := by omega
      rw [List.take_of_length_le (Nat.le_refl _)] at hvi
      have r1 := (hbw.block (w.heap.size + 1) (by omega)).trans r1
      obtain ⟨As, cs, rfl, _, _⟩ := hvo.shape
      obtain ⟨e20, e21⟩ := cells_of_row ht
      obtain ⟨d10, d11⟩ := cells_of_row r1
      have f10 := frozen_of_row wr _ 0 _ _ r1
      have f11 := frozen_of_row wr _ 1 _ _ r1
      have z4 : w.heap.size + 1 < wr.heap.size := by omega
      have HU := Lib.hid hul
      have o2 := o2.keptBy (w' := wr) (fun g _ h2 _ => hbw.block g h2)
      have hI := (hvi.first (o2.wider (Nat.le_refl _) (Nat.le_succ O)) (by omega) hO1).wider (lo' := w.heap.size) (by omega) (Nat.le_refl _)
      have hk2 : ∀ g, w.heap.size + 1 < g → ((wr.setCell ⟨w.heap.size + 1, 0, none⟩ (.slice A2 d.1.length c2)).setCell ⟨w.heap.size + 1, 1, none⟩ (.slice As us.length cs)).heap[g]? = wr.heap[g]? := fun g hg => (heap_setCell_other _ _ _ _ (by simp only []; omega)).trans (heap_setCell_other _ _ _ _ (by simp only []; omega))
      have hI := ((hvi.first (o2.wider (Nat.le_refl _) (Nat.le_succ O)) (by omega) hO1).keptBy (w' := (wr.setCell ⟨w.heap.size + 1, 0, none⟩ (.slice A2 d.1.length c2)).setCell ⟨w.heap.size + 1, 1, none⟩ (.slice As us.length cs)) (fun g h1 _ _ => hk2 g (by omega))).wider (lo' := w.heap.size) (by omega) (Nat.le_refl _)
      have hV := (hvo.keptBy (w' := (wr.setCell ⟨w.heap.size + 1, 0, none⟩ (.slice A2 d.1.length c2)).setCell ⟨w.heap.size + 1, 1, none⟩ (.slice As us.length cs)) (fun g hg => hk2 g (by have := (hvo.lt g hg).1; omega))).lower (base' := w.heap.size) (by omega)
      have hVl : ∀ g, (Value.slice As us.length cs).ownBlock = some g → g < wr.heap.size := fun g hg => (hvo.lt g hg).2
      have hsz2 : ((wr.setCell ⟨w.heap.size + 1, 0, none⟩ (.slice A2 d.1.length c2)).setCell ⟨w.heap.size + 1, 1, none⟩ (.slice As us.length cs)).heap.size = wr.heap.size := by simp [World.setCell]
      have bb4 := (hbb.setCell (p := ⟨w.heap.size + 1, 0, none⟩) (by simp only []; omega) (.slice A2 d.1.length c2)).setCell (p := ⟨w.heap.size + 1, 1, none⟩) (by simp only []; omega) (.slice As us.length cs)
      have hO : DeskV ((wr.setCell ⟨w.heap.size + 1, 0, none⟩ (.slice A2 d.1.length c2)).setCell ⟨w.heap.size + 1, 1, none⟩ (.slice As us.length cs)) w.heap.size ((wr.setCell ⟨w.heap.size + 1, 0, none⟩ (.slice A2 d.1.length c2)).setCell ⟨w.heap.size + 1, 1, none⟩ (.slice As us.length cs)).heap.size (.agg #[.slice A2 d.1.length c2, .slice As us.length cs]) d := by
        rw [hsz2]
        exact ⟨_, _, us, rfl, ⟨hV, hVl⟩, hI, by rw [hsz2]; exact Nat.le_refl _⟩
      clear hV hI hvo hvi o2 hbb hbw s0 hul
      go_wp2
      refine bodyPost_ret (v := .agg #[.slice A2 d.1.length c2, .slice As us.length cs]) (by simp [results, Tryz.results22, go_sem, *]) rfl ⟨_, rfl, hO, bb4⟩
end
/-! ### DeskS -/
section
open Go.RowKit Go.Sort

set_option maxRecDepth 100000 in
set_option maxHeartbeats 1600000 in
theorem specDeskDo_no (d : Dk) (k x y : Int) (v : Value) (w : World) (h : DeskR w w.heap.size v d) (hd : deskB d = false) : Calls Tryz.prog 7 #[v, .agg #[.int .i64 k, .int .i64 x, .int .i64 y]] w (GivesDeskQ ([], []) false w) := by
  have hD0 := h
  obtain ⟨nv, pv, rfl, rn, rp⟩ := h
  have hNn := rn
  have hPp := rp
  obtain ⟨An, cn, rfl, _, _⟩ := rn.slice
  obtain ⟨Ap, cp, rfl, _, hmp⟩ := rp.slice
  obtain ⟨W, hW⟩ : ∃ W, W = ((w.alloc (.cells #[.slice An d.1.length cn, .slice Ap d.2.length cp] 26)).alloc (.cells #[.int .i64 k, .int .i64 x, .int .i64 y] 28)).alloc (.cells #[.slice none 0 0, .slice none 0 0] 26) := ⟨_, rfl⟩
  have b0 : Below w.heap.size w W := by rw [hW]; exact ((box_below w _ _).alloc (by simp) _).alloc (by simp; omega) _
  have r0 : W.heap[w.heap.size]? = some (.cells #[.slice An d.1.length cn, .slice Ap d.2.length cp] 26 (0, 0)) := by rw [hW]; exact three0 w _ _ _
  have r1 : W.heap[w.heap.size + 1]? = some (.cells #[.int .i64 k, .int .i64 x, .int .i64 y] 28 (0, 0)) := by rw [hW]; exact three1 w _ _ _
  have r2 : W.heap[w.heap.size + 1 + 1]? = some (.cells #[.slice none 0 0, .slice none 0 0] 26 (0, 0)) := by rw [hW]; exact three2 w _ _ _
  have s0 : W.heap.size = w.heap.size + 3 := by rw [hW]; simp
  obtain ⟨c0, c1⟩ := cells_of_row r0
  obtain ⟨k0, k1, k2⟩ := cells3_of r1
  have hDk := hD0.kept b0
  go_enter Tryz.func7, Tryz.ntmps7
  go_wp2_with (first | (rw [← hW]; clear hW) | fail)
  refine (specDeskOk_any d _ _ hDk).mono ?_
  rintro e w1 ⟨rfl, b1⟩
  have r2 := (b1.block (w.heap.size + 1 + 1) (by omega)).trans r2
  have bb := below_step b0 b1
  have hz1 := b1.size
  obtain ⟨d10, d11⟩ := cells_of_row r2
  have f10 := frozen_of_row w1 _ 0 _ _ r2
  have f11 := frozen_of_row w1 _ 1 _ _ r2
  have b6 := (bb.setCell (p := ⟨w.heap.size + 1 + 1, 0, none⟩) (by simp only []; omega) (.slice none 0 0)).setCell (p := ⟨w.heap.size + 1 + 1, 1, none⟩) (by simp only []; omega) (.slice none 0 0)
  have hO := (DeskV.zero ((w1.setCell ⟨w.heap.size + 1 + 1, 0, none⟩ (.slice none 0 0)).setCell ⟨w.heap.size + 1 + 1, 1, none⟩ (.slice none 0 0)) w.heap.size ((w1.setCell ⟨w.heap.size + 1 + 1, 0, none⟩ (.slice none 0 0)).setCell ⟨w.heap.size + 1 + 1, 1, none⟩ (.slice none 0 0)).heap.size b6.size (Nat.le_refl _)).q
  go_wp2
  exact bodyPost_ret (v := .tuple #[.agg #[.slice none 0 0, .slice none 0 0], .bool false]) (by simp [results, Tryz.results7, go_sem, *]) rfl ⟨_, rfl, hO, b6⟩
/-! ### a desk -/
/-- some of these, in another order -/
theorem InZ.pickZ {w : World} {lo hi : Nat} {vs vs' : List Value} {ls ls' : List (List Sp)} (h : InZ w lo hi vs ls) (f : Nat → Nat) (hl : vs'.length = ls'.length) (hv : ∀ k u, vs'[k]? = some u → vs[f k]? = some u) (hp : ∀ k p, ls'[k]? = some p → ls[f k]? = some p) (hf : ∀ i j, i < j → j < ls'.length → f i ≠ f j) : InZ w lo hi vs' ls' := by
  refine ⟨hl, fun k p hk => ?_, fun i j u u' p p' hij hu hu' hp1 hp2 => ?_⟩
  · obtain ⟨u, h1, h2⟩ := h.own (f k) p (hp k p hk)
    have hkl := (List.getElem?_eq_some_iff.1 hk).1
    obtain ⟨x, hx⟩ : ∃ x, vs'[k]? = some x := ⟨_, List.getElem?_eq_getElem (by omega)⟩
    have e := hv k x hx
    rw [h1] at e; cases e
    exact ⟨u, hx, h2⟩
  · have e1 := hv i u hu
    have e2 := hv j u' hu'
    have q1 := hp i p hp1
    have q2 := hp j p' hp2
    have hj := (List.getElem?_eq_some_iff.1 hp2).1
    rcases Nat.lt_or_gt_of_ne (hf i j hij hj) with hlt | hgt
    · exact h.ne _ _ _ _ _ _ hlt e1 e2 q1 q2
    · rcases h.ne _ _ _ _ _ _ hgt e2 e1 q2 q1 with k | k
      · cases hb : blk u p with
        | none => exact .inl rfl
        | some g => exact .inr (by rw [k]; simp)
      · exact .inr k.symm
/-- the last one ahead of the others -/
theorem InZ.last {w : World} {lo hi L : Nat} {n u : Value} {vs : List Value} {q p : List Sp} {ls : List (List Sp)} (h : InZ w lo hi (n :: vs) (q :: ls)) (hL : ls.length = L + 1) (hu : vs[L]? = some u) (hp : ls[L]? = some p) : InZ w lo hi (u :: vs.take L) (p :: ls.take L) := by
  have hvl : vs.length = ls.length := by have := h.len; simpa using this
  refine h.pickZ (fun k => if k = 0 then L + 1 else k) (by simp [hvl]) (fun k x hx => ?_) (fun k x hx => ?_) (fun i j hij hj => ?_)
  · cases k with
    | zero => cases hx; rw [if_pos rfl, List.getElem?_cons_succ]; exact hu
    | succ k =>
      rw [List.getElem?_cons_succ, List.getElem?_take] at hx
      rw [if_neg (by omega), List.getElem?_cons_succ]
      split at hx
      · exact hx
      · cases hx
  · cases k with
    | zero => cases hx; rw [if_pos rfl, List.getElem?_cons_succ]; exact hp
    | succ k =>
      rw [List.getElem?_cons_succ, List.getElem?_take] at hx
      rw [if_neg (by omega), List.getElem?_cons_succ]
      split at hx
      · exact hx
      · cases hx
  · simp only [List.length_cons, List.length_take] at hj
    by_cases e : i = 0
    · rw [if_pos e, if_neg (by omega)]; omega
    · rw [if_neg e, if_neg (by omega)]; omega
/-- the first one behind the others -/
theorem InZ.turnedZ {w : World} {lo hi : Nat} {n : Value} {vs : List Value} {q : List Sp} {ls : List (List Sp)} (h : InZ w lo hi (n :: vs) (q :: ls)) : InZ w lo hi (vs ++ [n]) (ls ++ [q]) := by
  have hvl : vs.length = ls.length := by have := h.len; simpa using this
  have at' : ∀ {α : Type} (l : List α) (a x : α) (k : Nat), (l ++ [a])[k]? = some x → (a :: l)[if k = l.length then 0 else k + 1]? = some x := fun l a x k hk => by
    have hkl := (List.getElem?_eq_some_iff.1 hk).1
    rw [List.length_append, List.length_singleton] at hkl
    by_cases e : k = l.length
    · rw [if_pos e]
      rw [e, List.getElem?_append_right (Nat.le_refl _), Nat.sub_self] at hk
      exact hk
    · rw [if_neg e, List.getElem?_cons_succ]
      rw [List.getElem?_append_left (by omega)] at hk
      exact hk
  refine h.pickZ (fun k => if k = ls.length then 0 else k + 1) (by rw [List.length_append, List.length_append, hvl]; rfl) (fun k x hx => ?_) (fun k x hx => at' ls q x k hx) (fun i j hij hj => ?_)
  · have := at' vs n x k hx
    rw [hvl] at this
    exact this
  · rw [List.length_append, List.length_singleton] at hj
    rw [if_neg (by omega)]
    split <;> omega
theorem InZ.dropZ {w : World} {lo hi : Nat} {vs : List Value} {ls : List (List Sp)} (h : InZ w lo hi vs ls) (m : Nat) : InZ w lo hi (vs.drop m) (ls.drop m) :=
  h.pickZ (fun k => m + k) (by rw [List.length_drop, List.length_drop, h.len]) (fun k x hx => by rw [List.getElem?_drop] at hx; exact hx) (fun k x hx => by rw [List.getElem?_drop] at hx; exact hx) (fun i j hij _ => by omega)
end
/-! ### DeskV -/
section
open Go.RowKit Go.Sort

/-! ### back -/
theorem backEnd {w w1 w2 W W3 : World} {g L c : Nat} {u : Value} {vs : List Value} {p : List Sp} {T : List (List Sp)} (h1 : W.heap.size ≤ w1.heap.size) (h0 : W.heap.size = w.heap.size + 3) (h3 : W3.heap.size = w2.heap.size + 1) (b3 : Below w2.heap.size w2 W3)
    (hv : VOwns 23 w2 w1.heap.size (.slice (some ⟨g, 0, none⟩) L c) vs) (hI : InZ w2 w1.heap.size w2.heap.size (u :: vs) (p :: T)) (x y z t : Value) :
    DeskQ ((((W3.setCell ⟨w2.heap.size, 0, none⟩ x).setCell ⟨w2.heap.size, 1, none⟩ y).setCell ⟨w.heap.size + 1 + 1, 0, none⟩ z).setCell ⟨w.heap.size + 1 + 1, 1, none⟩ t) w.heap.size ((((W3.setCell ⟨w2.heap.size, 0, none⟩ x).setCell ⟨w2.heap.size, 1, none⟩ y).setCell ⟨w.heap.size + 1 + 1, 0, none⟩ z).setCell ⟨w.heap.size + 1 + 1, 1, none⟩ t).heap.size (.agg #[u, .slice (some ⟨g, 0, none⟩) L c]) (p, T) := by
  have hs : ((((W3.setCell ⟨w2.heap.size, 0, none⟩ x).setCell ⟨w2.heap.size, 1, none⟩ y).setCell ⟨w.heap.size + 1 + 1, 0, none⟩ z).setCell ⟨w.heap.size + 1 + 1, 1, none⟩ t).heap.size = W3.heap.size := by simp [World.setCell]
  have o : DeskV w2 w1.heap.size w2.heap.size (.agg #[u, .slice (some ⟨g, 0, none⟩) L c]) (p, T) := ⟨_, _, vs, rfl, ⟨hv, fun q hq => (hv.lt q hq).2⟩, hI, Nat.le_refl _⟩
  have o2 := o.keptBy (w' := (((W3.setCell ⟨w2.heap.size, 0, none⟩ x).setCell ⟨w2.heap.size, 1, none⟩ y).setCell ⟨w.heap.size + 1 + 1, 0, none⟩ z).setCell ⟨w.heap.size + 1 + 1, 1, none⟩ t) (by rw [hs]; omega) fun g h4 h5 _ => (set2_other (by omega)).trans ((set2_other (by omega)).trans (b3.block g h5))
  exact (o2.wider (by omega) (by rw [hs]; omega) (Nat.le_refl _)).q
set_option maxRecDepth 100000 in
set_option maxHeartbeats 1600000 in
theorem specDo_back (d : Dk) (L : Nat) (hL : d.2.length = L + 1) (v : Value) (w : World) (h : DeskR w w.heap.size v d) (hd : deskB d = true) : Calls Tryz.prog 7 #[v, .agg #[.int .i64 8, .int .i64 0, .int .i64 0]] w (GivesDeskQ (d.2.getD L [], d.2.take L) true w) := by
  have hD0 := h
  obtain ⟨nv, pv, rfl, rn, rp⟩ := h
  have hNn := rn
  have hPp := rp
  obtain ⟨An, cn, rfl, _, _⟩ := rn.slice
  obtain ⟨Ap, cp, rfl, _, hmp⟩ := rp.slice
  obtain ⟨W, hW⟩ : ∃ W, W = ((w.alloc (.cells #[.slice An d.1.length cn, .slice Ap d.2.length cp] 26)).alloc (.cells #[.int .i64 8, .int .i64 0, .int .i64 0] 28)).alloc (.cells #[.slice none 0 0, .slice none 0 0] 26) := ⟨_, rfl⟩
  have b0 : Below w.heap.size w W := by rw [hW]; exact ((box_below w _ _).alloc (by simp) _).alloc (by simp; omega) _
  have r0 : W.heap[w.heap.size]? = some (.cells #[.slice An d.1.length cn, .slice Ap d.2.length cp] 26 (0, 0)) := by rw [hW]; exact three0 w _ _ _
  have r1 : W.heap[w.heap.size + 1]? = some (.cells #[.int .i64 8, .int .i64 0, .int .i64 0] 28 (0, 0)) := by rw [hW]; exact three1 w _ _ _
  have r2 : W.heap[w.heap.size + 1 + 1]? = some (.cells #[.slice none 0 0, .slice none 0 0] 26 (0, 0)) := by rw [hW]; exact three2 w _ _ _
  have s0 : W.heap.size = w.heap.size + 3 := by rw [hW]; simp
  obtain ⟨c0, c1⟩ := cells_of_row r0
  obtain ⟨k0, k1, k2⟩ := cells3_of r1
  have hDk := hD0.kept b0
  obtain ⟨l1, l2, l3⟩ := desk_lens hd
  obtain ⟨p, hp⟩ : ∃ p, d.2[L]? = some p := ⟨_, List.getElem?_eq_getElem (by omega)⟩
  have hgd : d.2.getD L [] = p := by rw [List.getD_eq_getElem?_getD, hp]; rfl
  obtain ⟨T, hT⟩ : ∃ T, d.2.take L = T := ⟨_, rfl⟩
  rw [hgd, hT]
  clear hgd
  have HP := Lib.hid hp
  have HT := Lib.hid hT
  clear hp hT
  have hL0 : 0 < d.2.length := by omega
  have hLl : L < d.2.length := by omega
  replace hL := Lib.hid hL
  have hgt : decide ((0 : Int) < (d.2.length : Int)) = true := decide_eq_true (by omega)
  go_enter Tryz.func7, Tryz.ntmps7
  go_wp2_with (first | (rw [← hW]; clear hW) | fail)
  refine (dokS_is hd hDk).mono ?_
  rintro e w1 ⟨rfl, b1⟩
  have c0 := (b1.cell (p := ⟨w.heap.size, 0, none⟩) (by simp only []; omega)).trans c0
  have c1 := (b1.cell (p := ⟨w.heap.size, 1, none⟩) (by simp only []; omega)).trans c1
  have k0 := (b1.cell (p := ⟨w.heap.size + 1, 0, none⟩) (by simp only []; omega)).trans k0
  have k1 := (b1.cell (p := ⟨w.heap.size + 1, 1, none⟩) (by simp only []; omega)).trans k1
  have k2 := (b1.cell (p := ⟨w.heap.size + 1, 2, none⟩) (by simp only []; omega)).trans k2
  have r2 := (b1.block (w.heap.size + 1 + 1) (by omega)).trans r2
  have bb := below_step b0 b1
  have hz1 := b1.size
  have hDk := hDk.kept b1
  go_wp2_with fail
  refine (l12Copy_any d _ _ hDk l1 l2 l3).mono ?_
  rintro e w2 ⟨v2, rfl, ⟨n2, p2, vs, rfl, ⟨hv2, hvl⟩, hI2, _⟩, b2⟩
  have c0 := (b2.cell (p := ⟨w.heap.size, 0, none⟩) (by simp only []; omega)).trans c0
  have c1 := (b2.cell (p := ⟨w.heap.size, 1, none⟩) (by simp only []; omega)).trans c1
  have k0 := (b2.cell (p := ⟨w.heap.size + 1, 0, none⟩) (by simp only []; omega)).trans k0
  have k1 := (b2.cell (p := ⟨w.heap.size + 1, 1, none⟩) (by simp only []; omega)).trans k1
  have k2 := (b2.cell (p := ⟨w.heap.size + 1, 2, none⟩) (by simp only []; omega)).trans k2
  have r2 := (b2.block (w.heap.size + 1 + 1) (by omega)).trans r2
  have bb := below_step bb b2
  have hz2 := b2.size
  have hvd : vs.length = d.2.length := by have := hI2.len; simpa using this
  obtain ⟨Ap2, cp2, rfl, hcl, hcm, hcell⟩ := hv2.shape
  rw [hvd] at hcl hv2 hvl hcell ⊢
  obtain ⟨g, rfl, hg1, hg2⟩ := hcell hL0
  obtain ⟨u, hu⟩ : ∃ u, vs[L]? = some u := ⟨_, List.getElem?_eq_getElem (by omega)⟩
  have hp := HP.out
  have e0 := (hv2.cell (k := L) (by omega)).trans hu
  have hIL := hI2.last hL.out hu hp
  obtain ⟨x, hx, hox⟩ := hIL.own 0 p rfl
  cases hx
  obtain ⟨Au, cu, rfl, _, _⟩ := hox.slice
  obtain ⟨n', hn', hon⟩ := hI2.own 0 d.1 rfl
  cases hn'
  obtain ⟨An2, cn2, rfl, _, _⟩ := hon.slice
  have hvT := hv2.take (k := L) (by omega)
  replace hvd := Lib.hid hvd
  obtain ⟨W3, hW3⟩ : ∃ W3, W3 = w2.alloc (.cells #[.slice An2 d.1.length cn2, .slice (some ⟨g, 0, none⟩) d.2.length cp2] 26) := ⟨_, rfl⟩
  have b3 : Below w2.heap.size w2 W3 := by rw [hW3]; exact box_below _ _ _
  have r3 : W3.heap[w2.heap.size]? = some (.cells #[.slice An2 d.1.length cn2, .slice (some ⟨g, 0, none⟩) d.2.length cp2] 26 (0, 0)) := by rw [hW3]; exact heap_alloc_new w2 _
  have s3 : W3.heap.size = w2.heap.size + 1 := by rw [hW3]; simp
  obtain ⟨t0, t1⟩ := cells_of_row r3
  have c1 := (b3.cell (p := ⟨w.heap.size, 1, none⟩) (by simp only []; omega)).trans c1
  have k0 := (b3.cell (p := ⟨w.heap.size + 1, 0, none⟩) (by simp only []; omega)).trans k0
  have k1 := (b3.cell (p := ⟨w.heap.size + 1, 1, none⟩) (by simp only []; omega)).trans k1
  have k2 := (b3.cell (p := ⟨w.heap.size + 1, 2, none⟩) (by simp only []; omega)).trans k2
  have r2 := (b3.block (w.heap.size + 1 + 1) (by omega)).trans r2
  have e0 := (b3.cell (p := ⟨g, L, none⟩) hg2).trans e0
  have f30 := frozen_of_row W3 _ 0 _ _ r3
  have f31 := frozen_of_row W3 _ 1 _ _ r3
  have f20 := frozen_of_row W3 _ 0 _ _ r2
  have f21 := frozen_of_row W3 _ 1 _ _ r2
  obtain ⟨d20, d21⟩ := cells_of_row r2
  have hm1 : (d.2.length : Int) - 1 = (L : Int) := by have := hL.out; omega
  have hm2 : (d.2.length : Int) + -1 = (L : Int) := by omega
  have hm3 : (0 : Int) ≤ (L : Int) := Int.natCast_nonneg _
  have hm4 : (L : Int) < (d.2.length : Int) := by omega
  have hm5 : (L : Int) ≤ (cp2 : Int) := by omega
  have ne1 : g ≠ w2.heap.size := by omega
  have ne2 : w2.heap.size ≠ g := by omega
  have ne3 : w2.heap.size ≠ w.heap.size + 1 + 1 := by omega
  have ne4 : w.heap.size + 1 + 1 ≠ w2.heap.size := by omega
  clear hDk r0 r1 rn rp hNn hPp hD0 hv2 hI2 hcell hvl
  replace hIL := Lib.hid hIL
  replace hvT := Lib.hid hvT
  replace hu := Lib.hid hu
  replace hp := Lib.hid hp
  replace hox := Lib.hid hox
  replace hon := Lib.hid hon
  have b6 := ((((below_step bb b3).setCell (p := ⟨w2.heap.size, 0, none⟩) (by simp only []; omega) (.slice Au p.length cu)).setCell (p := ⟨w2.heap.size, 1, none⟩) (by simp only []; omega) (.slice (some ⟨g, 0, none⟩) L cp2)).setCell (p := ⟨w.heap.size + 1 + 1, 0, none⟩) (by simp only []; omega) (.slice Au p.length cu)).setCell (p := ⟨w.heap.size + 1 + 1, 1, none⟩) (by simp only []; omega) (.slice (some ⟨g, 0, none⟩) L cp2)
  have hO := backEnd (w := w) (w2 := w2) (W3 := W3) hz1 s0 s3 b3 hvT.out hIL.out (.slice Au p.length cu) (.slice (some ⟨g, 0, none⟩) L cp2) (.slice Au p.length cu) (.slice (some ⟨g, 0, none⟩) L cp2)
  rw [HT.out] at hO
  go_wp2_with (first | (rw [← hW3]; clear hW3) | fail)
  exact bodyPost_ret (v := .tuple #[.agg #[.slice Au p.length cu, .slice (some ⟨g, 0, none⟩) L cp2], .bool true]) (by simp [results, Tryz.results7, go_sem, *]) rfl ⟨_, rfl, hO, b6⟩

/-! ### what a deed makes -/
theorem doV_else {d : Dk} {a : Dd} (h : ¬ (isBack a = true ∧ 0 < d.2.length)) : doV d a = match madeV d.1 a with
    | some m => if m = d.1 then none else some (m, pastR d.2 d.1)
    | none => none := by
  rcases e : isBack a with _ | _
  · unfold doV
    rw [e]; rfl
  · have hl : d.2.length = 0 := by
      rcases Nat.eq_zero_or_pos d.2.length with k | k
      · exact k
      · exact absurd ⟨e, k⟩ h
    have ha : a = ((8, 0), 0) := of_decide_eq_true e
    subst ha
    rw [do_b0 hl]; rfl
/-- what is made, whether it is told, and what comes of it -/
def MadeEnd (d : Dk) (a : Dd) (w : World) (e : Ending) (w' : World) : Prop := ∃ (m : List Sp) (vm : Value) (ok : Bool), e = .returned (.tuple #[vm, .bool ok]) ∧ Reads w' w'.heap.size vm m ∧ m.length ≤ 60 ∧ Below w.heap.size w w' ∧ (ok = true → Owns w' w.heap.size vm m) ∧ doV d a = if ok && decide (m ≠ d.1) then some (m, pastR d.2 d.1) else none
theorem made_end {d : Dk} {a : Dd} {w w' : World} {e : Ending} (hp : picB d.1 = true) (hn : ¬ (isBack a = true ∧ 0 < d.2.length)) (h : MadePost d.1 a w e w') : MadeEnd d a w e w' := by
  rcases h with ⟨m, v, h1, h2, h3, h4⟩ | ⟨v, q, h1, h2, h3, h5, h4⟩
  · refine ⟨m, v, true, h2, h3.reads, (picB_pic (made_pic hp h1)).1, h4, fun _ => h3, ?_⟩
    rw [doV_else hn, h1]
    by_cases k : m = d.1
    · simp [k]
    · simp [k]
  · refine ⟨q, v, false, h2, h3, h5, h4, fun k => (by cases k), ?_⟩
    rw [doV_else hn, h1]; rfl
/-- the first k spots of two pictures are told to be the same, or the pictures are not -/
def EqUpto (m p : List Sp) (j : Nat) (b : Bool) : Prop := (b = true → m.length = p.length ∧ m.take j = p.take j) ∧ (b = false → m ≠ p)
theorem EqUpto.start (m p : List Sp) : EqUpto m p 0 (decide (m.length = p.length)) := ⟨fun h => ⟨of_decide_eq_true h, by simp⟩, fun h e => of_decide_eq_false h (by rw [e])⟩
theorem EqUpto.yes {m p : List Sp} {j : Nat} {a : Sp} (h : EqUpto m p j true) (hm : m[j]? = some a) (hp : p[j]? = some a) : EqUpto m p (j + 1) true :=
  ⟨fun _ => ⟨(h.1 rfl).1, by rw [List.take_add_one, List.take_add_one, hm, hp, (h.1 rfl).2]⟩, fun k => by cases k⟩
theorem EqUpto.no {m p : List Sp} {j : Nat} {a b : Sp} (hm : m[j]? = some a) (hp : p[j]? = some b) (k : a ≠ b) : EqUpto m p (j + 1) false :=
  ⟨fun h => (by cases h), fun _ e => k (by rw [e, hp] at hm; exact (Option.some.inj hm).symm)⟩
theorem EqUpto.end {m p : List Sp} {b : Bool} (h : EqUpto m p m.length b) : b = decide (m = p) := by
  cases b with
  | false => exact (decide_eq_false (h.2 rfl)).symm
  | true =>
    have k := h.1 rfl
    refine (decide_eq_true ?_).symm
    rw [List.take_length, k.1, List.take_length] at k
    exact k.2
end
/-! ### DeskZ -/
section
open Go.RowKit Go.Sort

set_option maxRecDepth 100000 in
set_option maxHeartbeats 3200000 in
theorem specDo_else (d : Dk) (k x y : Int) (v : Value) (w : World) (h : DeskR w w.heap.size v d) (hd : deskB d = true) (hn : ¬ (isBack ((k, x), y) = true ∧ 0 < d.2.length)) : Calls Tryz.prog 7 #[v, .agg #[.int .i64 k, .int .i64 x, .int .i64 y]] w (GivesDeskQ (doR d ((k, x), y)) (doOk d ((k, x), y)) w) := by
  have hD0 := h
  obtain ⟨nv, pv, rfl, rn, rp⟩ := h
  have hNn := rn
  have hPp := rp
  obtain ⟨An, cn, rfl, _, _⟩ := rn.slice
  obtain ⟨Ap, cp, rfl, _, hmp⟩ := rp.slice
  obtain ⟨W, hW⟩ : ∃ W, W = ((w.alloc (.cells #[.slice An d.1.length cn, .slice Ap d.2.length cp] 26)).alloc (.cells #[.int .i64 k, .int .i64 x, .int .i64 y] 28)).alloc (.cells #[.slice none 0 0, .slice none 0 0] 26) := ⟨_, rfl⟩
  have b0 : Below w.heap.size w W := by rw [hW]; exact ((box_below w _ _).alloc (by simp) _).alloc (by simp; omega) _
  have r0 : W.heap[w.heap.size]? = some (.cells #[.slice An d.1.length cn, .slice Ap d.2.length cp] 26 (0, 0)) := by rw [hW]; exact three0 w _ _ _
  have r1 : W.heap[w.heap.size + 1]? = some (.cells #[.int .i64 k, .int .i64 x, .int .i64 y] 28 (0, 0)) := by rw [hW]; exact three1 w _ _ _
  have r2 : W.heap[w.heap.size + 1 + 1]? = some (.cells #[.slice none 0 0, .slice none 0 0] 26 (0, 0)) := by rw [hW]; exact three2 w _ _ _
  have s0 : W.heap.size = w.heap.size + 3 := by rw [hW]; simp
  obtain ⟨c0, c1⟩ := cells_of_row r0
  obtain ⟨k0, k1, k2⟩ := cells3_of r1
  have hDk := hD0.kept b0
  obtain ⟨l1, l2, l3⟩ := desk_lens hd
  have hpic := (deskB_iff.1 hd).now
  obtain ⟨z, hz⟩ : ∃ z, z = doR d ((k, x), y) := ⟨_, rfl⟩
  obtain ⟨b, hb⟩ : ∃ b, b = doOk d ((k, x), y) := ⟨_, rfl⟩
  rw [← hz, ← hb]
  have HZ := Lib.hid (And.intro hz hb)
  clear hz hb
  have HN := Lib.hid hn
  have HN4 : ((k == 8) = false ∨ ((k == 8) = true ∧ (x == 0) = false)) ∨ (((k == 8) = true ∧ (x == 0) = true ∧ (y == 0) = false) ∨ ((k == 8) = true ∧ (x == 0) = true ∧ (y == 0) = true ∧ decide ((0 : Int) < (d.2.length : Int)) = false)) := by
    by_cases e1 : k = 8
    · by_cases e2 : x = 0
      · by_cases e3 : y = 0
        · refine .inr (.inr ⟨beq_iff_eq.2 e1, beq_iff_eq.2 e2, beq_iff_eq.2 e3, decide_eq_false fun e => HN.out ⟨?_, by omega⟩⟩)
          exact decide_eq_true (by rw [e1, e2, e3])
        · exact .inr (.inl ⟨beq_iff_eq.2 e1, beq_iff_eq.2 e2, beq_eq_false_iff_ne.2 e3⟩)
      · exact .inl (.inr ⟨beq_iff_eq.2 e1, beq_eq_false_iff_ne.2 e2⟩)
    · exact .inl (.inl (beq_eq_false_iff_ne.2 e1))
  replace HN4 := Lib.hid HN4
  clear hn
  go_enter Tryz.func7, Tryz.ntmps7
  go_wp2_with (first | (rw [← hW]; clear hW) | fail)
  refine (dokS_is hd hDk).mono ?_
  rintro e w1 ⟨rfl, b1⟩
  have c0 := (b1.cell (p := ⟨w.heap.size, 0, none⟩) (by simp only []; omega)).trans c0
  have c1 := (b1.cell (p := ⟨w.heap.size, 1, none⟩) (by simp only []; omega)).trans c1
  have k0 := (b1.cell (p := ⟨w.heap.size + 1, 0, none⟩) (by simp only []; omega)).trans k0
  have k1 := (b1.cell (p := ⟨w.heap.size + 1, 1, none⟩) (by simp only []; omega)).trans k1
  have k2 := (b1.cell (p := ⟨w.heap.size + 1, 2, none⟩) (by simp only []; omega)).trans k2
  have r2 := (b1.block (w.heap.size + 1 + 1) (by omega)).trans r2
  have bb := below_step b0 b1
  have hz1 := b1.size
  have hDk := hDk.kept b1
  go_wp2_with fail
  refine (l12Copy_any d _ _ hDk l1 l2 l3).mono ?_
  rintro e w2 ⟨v2, rfl, hV2, b2⟩
  have hV := hV2
  obtain ⟨n2, p2, vs, rfl, ⟨hv2, hvl⟩, hI2, _⟩ := hV2
  have c0 := (b2.cell (p := ⟨w.heap.size, 0, none⟩) (by simp only []; omega)).trans c0
  have c1 := (b2.cell (p := ⟨w.heap.size, 1, none⟩) (by simp only []; omega)).trans c1
  have k0 := (b2.cell (p := ⟨w.heap.size + 1, 0, none⟩) (by simp only []; omega)).trans k0
  have k1 := (b2.cell (p := ⟨w.heap.size + 1, 1, none⟩) (by simp only []; omega)).trans k1
  have k2 := (b2.cell (p := ⟨w.heap.size + 1, 2, none⟩) (by simp only []; omega)).trans k2
  have r2 := (b2.block (w.heap.size + 1 + 1) (by omega)).trans r2
  have bb := below_step bb b2
  have hz2 := b2.size
  have hvd : vs.length = d.2.length := by have := hI2.len; simpa using this
  obtain ⟨Ap2, cp2, rfl, hcl, hcm, hcell⟩ := hv2.shape
  rw [hvd] at hcl hv2 hvl hcell hV ⊢
  obtain ⟨n', hn', hon⟩ := hI2.own 0 d.1 rfl
  cases hn'
  obtain ⟨An2, cn2, rfl, _, _⟩ := hon.slice
  replace hvd := Lib.hid hvd
  obtain ⟨W3, hW3⟩ : ∃ W3, W3 = w2.alloc (.cells #[.slice An2 d.1.length cn2, .slice Ap2 d.2.length cp2] 26) := ⟨_, rfl⟩
  have b3 : Below w2.heap.size w2 W3 := by rw [hW3]; exact box_below _ _ _
  have r3 : W3.heap[w2.heap.size]? = some (.cells #[.slice An2 d.1.length cn2, .slice Ap2 d.2.length cp2] 26 (0, 0)) := by rw [hW3]; exact heap_alloc_new w2 _
  have s3 : W3.heap.size = w2.heap.size + 1 := by rw [hW3]; simp
  have c0 := (b3.cell (p := ⟨w.heap.size, 0, none⟩) (by simp only []; omega)).trans c0
  have c1 := (b3.cell (p := ⟨w.heap.size, 1, none⟩) (by simp only []; omega)).trans c1
  have k0 := (b3.cell (p := ⟨w.heap.size + 1, 0, none⟩) (by simp only []; omega)).trans k0
  have k1 := (b3.cell (p := ⟨w.heap.size + 1, 1, none⟩) (by simp only []; omega)).trans k1
  have k2 := (b3.cell (p := ⟨w.heap.size + 1, 2, none⟩) (by simp only []; omega)).trans k2
  have r2 := (b3.block (w.heap.size + 1 + 1) (by omega)).trans r2
  have bb := below_step bb b3
  have hDk := hDk.kept (below_step b2 b3)
  have hN3 := (hNn.keep bb (Nat.le_refl _))
  clear r0 r1 rn rp hNn hPp hD0 hcell b1 b0
  go_upto_region 4 with (first | (rw [← hW3]; clear hW3) | fail)
  go_cut [26] from 18 to 26 (fun s wx => s = .bool false ∧ W3 = wx)
  case first =>
    rcases HN4.out with (e | ⟨e1, e2⟩) | (⟨e1, e2, e3⟩ | ⟨e1, e2, e3, e4⟩)
    · go_wp2
      go_meet
      case rel => exact ⟨rfl, rfl⟩
    · go_wp2
      go_meet
      case rel => exact ⟨rfl, rfl⟩
    · go_wp2
      go_meet
      case rel => exact ⟨rfl, rfl⟩
    · go_wp2
      go_meet
      case rel => exact ⟨congrArg Value.bool (decide_eq_false (by have := of_decide_eq_false e4; omega)), rfl⟩
  case rest =>
    obtain ⟨rfl, rfl⟩ := hcut
    go_wp2_with fail
    refine (madeS_any k x y d.1 _ W3 hN3 hpic).mono ?_
    rintro e w4 hg
    obtain ⟨m, vm, ok, rfl, rm, hml, b4, hown, hdo⟩ := made_end hpic HN.out hg
    clear hg
    have hz4 := b4.size
    have hN4 := hN3.kept b4
    obtain ⟨Am, cm, rfl, hm1, hm2, hm3, hmr⟩ := rm.is
    obtain ⟨An', cn', en, hn1, hn2, hn3, hnr⟩ := hN4.is
    cases en
    unfold maxLen at hm2 hn2
    have c0 := (b4.cell (p := ⟨w.heap.size, 0, none⟩) (by simp only []; omega)).trans c0
    have r2 := (b4.block (w.heap.size + 1 + 1) (by omega)).trans r2
    have r3 := (b4.block w2.heap.size (by omega)).trans r3
    have bb := below_step bb b4
    have hl1 : d.1.length ≤ 60 := (picB_pic hpic).1
    have HO := Lib.hid hown
    have HD := Lib.hid hdo
    have HV := Lib.hid hV
    have HL := Lib.hid hvl
    have b34 := below_step b3 b4
    clear hown hdo hV k0 k1 k2 c1 hDk hN3 b3 b2
    go_upto_block 0 with fail
    go_cut [10] from 56 to 74 (fun s wx => s = .bool (decide (m = d.1)) ∧ Below w4.heap.size w4 wx)
    case first =>
      go_wp2_with fail
      go_loopw [10, 11] (fun s i wr => ∃ (j : Nat) (b : Bool), s = .bool b ∧ i = .int .i64 j ∧ j ≤ m.length ∧ EqUpto m d.1 j b ∧ Below w4.heap.size w4 wr) (fun _ i _ => m.length - (intOf i).toNat)
      case atStart =>
        refine ⟨0, _, rfl, rfl, Nat.zero_le _, ?_, Below.refl _ _⟩
        have e : ((m.length : Int) == (d.1.length : Int)) = decide (m.length = d.1.length) := by
          rw [Bool.eq_iff_iff, beq_iff_eq, decide_eq_true_eq]; omega
        rw [e]
        exact EqUpto.start m d.1
      case round =>
        obtain ⟨j, b, rfl, rfl, hj, hE, hbw⟩ := hrel
        have HE := Lib.hid hE
        clear hE
        by_cases hlt : j < m.length
        · cases b with
          | false =>
            have hF : decide (m = d.1) = false := decide_eq_false (HE.out.2 rfl)
            go_wp2
            go_meet
            case rel => exact ⟨by rw [hF], hbw⟩
          | true =>
            have hlen := (HE.out.1 rfl).1
            obtain ⟨⟨a1, a2⟩, ha⟩ : ∃ a, m[j]? = some a := ⟨_, List.getElem?_eq_getElem hlt⟩
            obtain ⟨⟨g1, g2⟩, hg⟩ : ∃ a, d.1[j]? = some a := ⟨_, List.getElem?_eq_getElem (by omega)⟩
            have hlt2 : (j : Int) < (d.1.length : Int) := by omega
            obtain ⟨bm, om, rfl, hbm, hcm⟩ := hmr (by omega)
            obtain ⟨bn, on, rfl, hbn, hcn⟩ := hnr (by omega)
            obtain ⟨e1, e2⟩ := hcm j a1 a2 ha
            obtain ⟨e3, e4⟩ := hcn j g1 g2 hg
            have d1 := cell_regrown ((hbw.cell (p := ⟨bm, om + j * 2, none⟩) hbm).trans e1)
            have d2 := cell_regrown ((hbw.cell (p := ⟨bm, om + j * 2 + 1, none⟩) hbm).trans e2)
            have d3 := cell_regrown ((hbw.cell (p := ⟨bn, on + j * 2, none⟩) hbn).trans e3)
            have d4 := cell_regrown ((hbw.cell (p := ⟨bn, on + j * 2 + 1, none⟩) hbn).trans e4)
            have d5 := cell_regrown ((hbw.cell (p := ⟨w.heap.size, 0, none⟩) (by simp only []; omega)).trans c0)
            have hp3 : (0 : Int) ≤ (j : Int) := Int.natCast_nonneg _
            have hp4 : (j : Int) < (m.length : Int) := by omega
            have HA := Lib.hid ha
            have HG := Lib.hid hg
            clear ha hg hcm hcn hmr hnr e1 e2 e3 e4 hlen
            by_cases q1 : a1 = g1
            · have f1 : (a1 == g1) = true := beq_iff_eq.2 q1
              by_cases q2 : a2 = g2
              · have f2 : (a2 == g2) = true := beq_iff_eq.2 q2
                have HE2 := Lib.hid (HE.out.yes HA.out (by rw [HG.out, q1, q2]))
                clear q1 q2
                go_wp2_with fail
                go_wp2
                refine wp_region_quiet_below (by kernel_rfl) (by kernel_rfl) ?_
                repeat (go_big_quiet_step (first | fail))
                refine wpQuiet_nil ?_
                intro w5 hw'
                obtain ⟨⟨dq, osq⟩, hw''⟩ := hw'
                have b5 : Below wr.heap.size wr w5 := by rw [hw'']; exact below_regrown _ _ _
                clear hw'' dq osq
                go_wp2
                go_roundw
                case rel => exact ⟨j + 1, _, rfl, by go_num, by omega, HE2.out, below_step hbw b5⟩
                case measure => simp [intOf]; omega
              · have f2 : (a2 == g2) = false := beq_eq_false_iff_ne.2 q2
                have HE2 := Lib.hid (EqUpto.no HA.out HG.out (fun e => q2 (Prod.mk.inj e).2))
                clear q1 q2
                go_wp2_with fail
                go_wp2
                refine wp_region_quiet_below (by kernel_rfl) (by kernel_rfl) ?_
                repeat (go_big_quiet_step (first | fail))
                refine wpQuiet_nil ?_
                intro w5 hw'
                obtain ⟨⟨dq, osq⟩, hw''⟩ := hw'
                have b5 : Below wr.heap.size wr w5 := by rw [hw'']; exact below_regrown _ _ _
                clear hw'' dq osq
                go_wp2
                go_roundw
                case rel => exact ⟨j + 1, _, rfl, by go_num, by omega, HE2.out, below_step hbw b5⟩
                case measure => simp [intOf]; omega
            · have f1 : (a1 == g1) = false := beq_eq_false_iff_ne.2 q1
              have HE2 := Lib.hid (EqUpto.no HA.out HG.out (fun e => q1 (Prod.mk.inj e).1))
              clear q1
              go_wp2_with fail
              go_wp2
              refine wp_region_quiet_below (by kernel_rfl) (by kernel_rfl) ?_
              repeat (go_big_quiet_step (first | fail))
              refine wpQuiet_nil ?_
              intro w5 hw'
              obtain ⟨⟨dq, osq⟩, hw''⟩ := hw'
              have b5 : Below wr.heap.size wr w5 := by rw [hw'']; exact below_regrown _ _ _
              clear hw'' dq osq
              go_wp2
              go_roundw
              case rel => exact ⟨j + 1, _, rfl, by go_num, by omega, HE2.out, below_step hbw b5⟩
              case measure => simp [intOf]; omega
        · obtain rfl : j = m.length := by omega
          have hF := HE.out.end
          go_wp2
          go_meet
          case rel => exact ⟨by rw [hF], hbw⟩
    case rest =>
      obtain ⟨rfl, hbw⟩ := hcut
      have hz5 := hbw.size
      have r2 := (hbw.block (w.heap.size + 1 + 1) (by omega)).trans r2
      have r3 := (hbw.block w2.heap.size (by omega)).trans r3
      have bb := bb.trans (hbw.mono (by have := bb.size; omega))
      obtain ⟨t0, t1⟩ := cells_of_row r3
      obtain ⟨d20, d21⟩ := cells_of_row r2
      have f20 := frozen_of_row wc _ 0 _ _ r2
      have f21 := frozen_of_row wc _ 1 _ _ r2
      have f30 := frozen_of_row wc _ 0 _ _ r3
      have f31 := frozen_of_row wc _ 1 _ _ r3
      clear hmr hnr hN4 rm c0
      cases hok : (ok && decide (m ≠ d.1)) with
      | false =>
        have HDO := HD.out
        rw [hok] at HDO
        obtain ⟨eo, er⟩ := do_no HDO
        have E1 := HZ.out
        rw [eo, er] at E1
        obtain ⟨rfl, rfl⟩ := E1
        have bK := below_step b34 hbw
        have oc : DeskV wc w1.heap.size wc.heap.size (.agg #[.slice An2 z.1.length cn2, .slice Ap2 z.2.length cp2]) z := (HV.out.below bK).wider (Nat.le_refl _) bK.size (Nat.le_refl _)
        have hO := (oc.boxed (w := w) (r := w.heap.size + 1 + 1) (X := .slice An2 z.1.length cn2) (Y := .slice Ap2 z.2.length cp2) (by omega) (by omega)).q
        have b6 := (bb.setCell (p := ⟨w.heap.size + 1 + 1, 0, none⟩) (by simp only []; omega) (.slice An2 z.1.length cn2)).setCell (p := ⟨w.heap.size + 1 + 1, 1, none⟩) (by simp only []; omega) (.slice Ap2 z.2.length cp2)
        clear oc hv2 hI2 hvl hon
        cases ok with
        | false =>
          clear hok
          go_wp2
          exact bodyPost_ret (v := .tuple #[.agg #[.slice An2 z.1.length cn2, .slice Ap2 z.2.length cp2], .bool false]) (by simp [results, Tryz.results7, go_sem, *]) rfl ⟨_, rfl, hO, b6⟩
        | true =>
          have hE : decide (m = z.1) = true := by
            rw [Bool.true_and] at hok
            exact decide_eq_true (Decidable.not_not.1 (of_decide_eq_false hok))
          rw [hE]
          clear hok hE
          go_wp2
          exact bodyPost_ret (v := .tuple #[.agg #[.slice An2 z.1.length cn2, .slice Ap2 z.2.length cp2], .bool false]) (by simp [results, Tryz.results7, go_sem, *]) rfl ⟨_, rfl, hO, b6⟩
      | true =>
        have HDO := HD.out
        rw [hok] at HDO
        obtain ⟨eo, er⟩ := do_yes HDO
        have E1 := HZ.out
        rw [eo, er] at E1
        obtain ⟨rfl, rfl⟩ := E1
        rw [Bool.and_eq_true] at hok
        obtain ⟨rfl, hme⟩ := hok
        have hE : decide (m = d.1) = false := decide_eq_false (of_decide_eq_true hme)
        rw [hE]
        clear hE hme eo er HDO
        have bK := below_step b34 hbw
        have om := (HO.out rfl).below hbw
        have hvc := hv2.below bK
        have hIc := hI2.keptBy (w' := wc) (fun g _ h2 _ => bK.block g h2)
        have few := (deskB_iff.1 hd).few
        have bA := box_below wc #[.slice An2 d.1.length cn2] 23
        have hzA := World.size_alloc wc (.cells #[.slice An2 d.1.length cn2] 23)
        have hvA := hvc.below bA
        have e0 : (wc.alloc (.cells #[.slice An2 d.1.length cn2] 23)).cell? ⟨wc.heap.size, 0, none⟩ = some (.slice An2 d.1.length cn2) := one_at' _ _ _
        have hvn : vs.length = d.2.length := hvd.out
        replace hvn := Lib.hid hvn
        have hK := bK.size
        have rA3 := (bA.block w2.heap.size (by omega)).trans r3
        have rA2 := (bA.block (w.heap.size + 1 + 1) (by omega)).trans r2
        clear hvc hv2 hI2 hon hvl hd hpic r2 r3 d20 d21 f20 f21 f30 f31
        go_wp2_with (at_builtin; refine wpList_append_Part hvA e0 rfl (by have := hvn.out; omega) (by omega) rfl (.tmp 82) (.tmp 85) rfl rfl rfl ?_)
        intro v5 w5 o5 g5 hv5
        obtain ⟨A5, c5, e5, h51, h52, h53⟩ := o5.shape
        have e6 : (vs ++ [Value.slice An2 d.1.length cn2]).length = d.2.length + 1 := by rw [List.length_append, hvn.out]; rfl
        rw [e6] at e5 h51
        subst e5
        have hz5' := g5.size
        have own5 : w2.heap.size < w1.heap.size ∨ ∀ q, (Value.slice Ap2 d.2.length cp2).ownBlock = some q → w1.heap.size ≤ q ∧ q < w2.heap.size := .inr fun q hq => ⟨(hvA.lt q hq).1, HL.out q hq⟩
        have ownq : ∀ q, (Value.slice Ap2 d.2.length cp2).ownBlock = some q → w1.heap.size ≤ q ∧ q < w2.heap.size := fun q hq => ⟨(hvA.lt q hq).1, HL.out q hq⟩
        have r53 := (g5.block w2.heap.size (by omega) (fun e => by have := ownq _ e.symm; omega)).trans rA3
        have r52 := (g5.block (w.heap.size + 1 + 1) (by omega) (fun e => by have := ownq _ e.symm; omega)).trans rA2
        obtain ⟨t0, t1⟩ := cells_of_row r53
        have f30 := frozen_of_row w5 _ 0 _ _ r53
        have f31 := frozen_of_row w5 _ 1 _ _ r53
        obtain ⟨d20, d21⟩ := cells_of_row r52
        have f20 := frozen_of_row w5 _ 0 _ _ r52
        have f21 := frozen_of_row w5 _ 1 _ _ r52
        have hI5 : InZ w5 w1.heap.size w2.heap.size (vs ++ [Value.slice An2 d.1.length cn2]) (d.2 ++ [d.1]) := ((hIc.keptBy (w' := wc.alloc (.cells #[.slice An2 d.1.length cn2] 23)) (fun g _ h2 _ => bA.block g (by omega))).grownV hvA g5).turnedZ
        have om5 := ((om.below bA).grown g5 (by
          cases hq : (Value.slice Am m.length cm).ownBlock with
          | none => exact .inl rfl
          | some q => exact .inr (fun e => by have := ownq _ e.symm; have := (om.lt q hq).1; omega)))
        have b5 : Below w.heap.size w w5 := ((bb.trans (bA.mono (by omega))).grown g5 (by omega) (fun q hq => by have := ownq q hq; omega))
        have A5q : ∀ q, (Value.slice A5 (d.2.length + 1) c5).ownBlock = some q → w1.heap.size ≤ q ∧ q < w5.heap.size ∧ q ≠ w2.heap.size := fun q hq => ⟨(o5.lt q hq).1, (o5.lt q hq).2, fun e => by
          rcases hv5 with k | k
          · rw [hq] at k; have := ownq q k.symm; omega
          · rw [hq] at k; injection k with k; omega⟩
        obtain ⟨ga, rfl, _, hga⟩ := h53 (by rw [e6]; omega)
        clear rA3 rA2 hIc om hvA e0 bA hv5 g5 own5 h53
        replace e6 := Lib.hid e6
        have hmr60 : m.length ≤ 60 := hml
        by_cases h8 : d.2.length = 8
        · have hi8 : (8 : Int) < (d.2.length : Int) + 1 := by omega
          have hi1 : (1 : Int) ≤ (d.2.length : Int) + 1 := by omega
          have hn1 : 1 ≤ d.2.length + 1 := by omega
          have HPR := Lib.hid (pastR_full (p := d.1) h8)
          have H8 := Lib.hid h8
          clear h8
          obtain ⟨P, hP⟩ : ∃ P, P = (w5.setCell ⟨w2.heap.size, 1, none⟩ (.slice (some ⟨ga, 0, none⟩) (d.2.length + 1) c5)).setCell ⟨w2.heap.size, 1, none⟩ (.slice (some ⟨ga, 1, none⟩) d.2.length (c5 - 1)) := ⟨_, rfl⟩
          have rP3 : P.heap[w2.heap.size]? = some (.cells #[.slice An2 d.1.length cn2, .slice (some ⟨ga, 1, none⟩) d.2.length (c5 - 1)] 26 (0, 0)) := by
            rw [hP]; exact (heap_setCell_same _ w2.heap.size 1 _ _ _ ((heap_setCell_same w5 w2.heap.size 1 _ _ _ r53).trans rfl)).trans rfl
          have hPk : ∀ q, q ≠ w2.heap.size → P.heap[q]? = w5.heap[q]? := fun q hq => by
            rw [hP]; exact (heap_setCell_other _ _ _ _ hq).trans (heap_setCell_other _ _ _ _ hq)
          have bP : Below w.heap.size w P := by
            rw [hP]; exact (b5.setCell (p := ⟨w2.heap.size, 1, none⟩) (by simp only []; omega) _).setCell (p := ⟨w2.heap.size, 1, none⟩) (by simp only []; omega) _
          have hPs : P.heap.size = w5.heap.size := by rw [hP]; simp [World.setCell]
          have rP2 := (hPk (w.heap.size + 1 + 1) (by omega)).trans r52
          have omP : Owns P W3.heap.size (.slice Am m.length cm) m := om5.keptBy fun q hq => hPk q (by have := (om5.lt q hq).1; omega)
          have hIP := hI5.keptBy (w' := P) (fun q _ h2 _ => hPk q (by omega))
          have bE := box_below P #[] 53
          have oE := Owns.empty P P.heap.size (Nat.le_refl _)
          have rM := (omP.below bE).reads
          have hzE := World.size_alloc P (.cells #[] 53)
          rw [hPs] at bE oE
          clear hI5 om5 r52 r53 d20 d21 f20 f21
          go_wp2_with (at_builtin; rw [← hP]; clear hP; refine wpList_append_spots (qs := m) oE rM (by simp only [List.length_nil]; omega) (by omega) rfl (.tmp 96) (.tmp 97) rfl rfl rfl ?_)
          intro v7 w7 o7 g7 _
          have b7 := oE.below_app bE (by omega) g7
          obtain ⟨A7, c7, rfl, _, _⟩ := o7.reads.slice
          have hz7 := b7.size
          have r73 := (b7.block w2.heap.size (by omega)).trans rP3
          have r72 := (b7.block (w.heap.size + 1 + 1) (by omega)).trans rP2
          obtain ⟨t0, t1⟩ := cells_of_row r73
          have f30 := frozen_of_row w7 _ 0 _ _ r73
          have f31 := frozen_of_row w7 _ 1 _ _ r73
          obtain ⟨d20, d21⟩ := cells_of_row r72
          have f20 := frozen_of_row w7 _ 0 _ _ r72
          have f21 := frozen_of_row w7 _ 1 _ _ r72
          have bF := (((bP.trans (b7.mono (by omega))).setCell (p := ⟨w2.heap.size, 0, none⟩) (by simp only []; omega) (.slice A7 m.length c7)).setCell (p := ⟨w.heap.size + 1 + 1, 0, none⟩) (by simp only []; omega) (.slice A7 m.length c7)).setCell (p := ⟨w.heap.size + 1 + 1, 1, none⟩) (by simp only []; omega) (.slice (some ⟨ga, 1, none⟩) d.2.length (c5 - 1))
          obtain ⟨F, hF⟩ : ∃ F, F = ((w7.setCell ⟨w2.heap.size, 0, none⟩ (.slice A7 m.length c7)).setCell ⟨w.heap.size + 1 + 1, 0, none⟩ (.slice A7 m.length c7)).setCell ⟨w.heap.size + 1 + 1, 1, none⟩ (.slice (some ⟨ga, 1, none⟩) d.2.length (c5 - 1)) := ⟨_, rfl⟩
          have hFk : ∀ q, q ≠ w2.heap.size → q ≠ w.heap.size + 1 + 1 → F.heap[q]? = w7.heap[q]? := fun q h1 h2 => by
            rw [hF]; exact (set2_other h2).trans (heap_setCell_other _ _ _ _ h1)
          have hFs : F.heap.size = w7.heap.size := by rw [hF]; simp [World.setCell]
          have vF := o5.keptBy (w' := F) (fun q hq => by
            obtain ⟨a1, a2, a3⟩ := A5q q hq
            exact (hFk q a3 (by omega)).trans ((b7.block q a2).trans (hPk q a3)))
          have zF := VZ.of vF (Nat.le_refl _)
          have iF := hIP.keptBy (w' := F) (fun q h1 h2 _ => (hFk q (by omega) (by omega)).trans (b7.block q (by omega)))
          have oF := OZ.of (hi := F.heap.size) (o7.keptBy (w' := F) (fun q hq => hFk q (by have := (o7.lt q hq).1; omega) (by have := (o7.lt q hq).1; omega))) (Nat.le_refl _)
          have hO : DeskQ F w.heap.size F.heap.size (.agg #[.slice A7 m.length c7, .slice (some ⟨ga, 1, none⟩) d.2.length (c5 - 1)]) (m, pastR d.2 d.1) := by
            rw [HPR.out]
            have zF2 : VZ F w1.heap.size F.heap.size (.slice (some ⟨ga, 1, none⟩) d.2.length (c5 - 1)) _ := (zF.drop (k := 1) (by rw [e6.out]; omega))
            have iF2 := iF.dropZ 1
            have iC := ((iF2.wider (Nat.le_refl _) (show w2.heap.size ≤ w5.heap.size by omega)).cons oF (by omega) (by omega)).wider (lo' := w.heap.size) (by omega) (Nat.le_refl _)
            exact ⟨⟨_, _, _, rfl, zF2.wider (by omega) (Nat.le_refl _), iC, Nat.le_refl _⟩, (fun hc => absurd hc (by simp only [List.length_drop, List.length_append, List.length_singleton]; have := H8.out; omega))⟩
          rw [hF] at hO
          clear vF zF iF oF hIP oE rM omP bE bP o7 g7 b7 rP2 rP3 hFk hF r73 r72
          go_wp2
          exact bodyPost_ret (v := .tuple #[.agg #[.slice A7 m.length c7, .slice (some ⟨ga, 1, none⟩) d.2.length (c5 - 1)], .bool true]) (by simp [results, Tryz.results7, go_sem, *]) rfl ⟨_, rfl, hO, bF⟩
        · have hi8 : (d.2.length : Int) + 1 ≤ 8 := by omega
          have HPR := Lib.hid (pastR_small (p := d.1) (show d.2.length < 8 by omega))
          clear h8
          obtain ⟨P, hP⟩ : ∃ P, P = w5.setCell ⟨w2.heap.size, 1, none⟩ (.slice (some ⟨ga, 0, none⟩) (d.2.length + 1) c5) := ⟨_, rfl⟩
          have rP3 : P.heap[w2.heap.size]? = some (.cells #[.slice An2 d.1.length cn2, .slice (some ⟨ga, 0, none⟩) (d.2.length + 1) c5] 26 (0, 0)) := by
            rw [hP]; exact (heap_setCell_same w5 w2.heap.size 1 _ _ _ r53).trans rfl
          have hPk : ∀ q, q ≠ w2.heap.size → P.heap[q]? = w5.heap[q]? := fun q hq => by
            rw [hP]; exact heap_setCell_other _ _ _ _ hq
          have bP : Below w.heap.size w P := by
            rw [hP]; exact b5.setCell (p := ⟨w2.heap.size, 1, none⟩) (by simp only []; omega) _
          have hPs : P.heap.size = w5.heap.size := by rw [hP]; simp [World.setCell]
          have rP2 := (hPk (w.heap.size + 1 + 1) (by omega)).trans r52
          have omP : Owns P W3.heap.size (.slice Am m.length cm) m := om5.keptBy fun q hq => hPk q (by have := (om5.lt q hq).1; omega)
          have hIP := hI5.keptBy (w' := P) (fun q _ h2 _ => hPk q (by omega))
          have bE := box_below P #[] 53
          have oE := Owns.empty P P.heap.size (Nat.le_refl _)
          have rM := (omP.below bE).reads
          have hzE := World.size_alloc P (.cells #[] 53)
          rw [hPs] at bE oE
          clear hI5 om5 r52 r53 d20 d21 f20 f21
          go_wp2_with (at_builtin; rw [← hP]; clear hP; refine wpList_append_spots (qs := m) oE rM (by simp only [List.length_nil]; omega) (by omega) rfl (.tmp 96) (.tmp 97) rfl rfl rfl ?_)
          intro v7 w7 o7 g7 _
          have b7 := oE.below_app bE (by omega) g7
          obtain ⟨A7, c7, rfl, _, _⟩ := o7.reads.slice
          have hz7 := b7.size
          have r73 := (b7.block w2.heap.size (by omega)).trans rP3
          have r72 := (b7.block (w.heap.size + 1 + 1) (by omega)).trans rP2
          obtain ⟨t0, t1⟩ := cells_of_row r73
          have f30 := frozen_of_row w7 _ 0 _ _ r73
          have f31 := frozen_of_row w7 _ 1 _ _ r73
          obtain ⟨d20, d21⟩ := cells_of_row r72
          have f20 := frozen_of_row w7 _ 0 _ _ r72
          have f21 := frozen_of_row w7 _ 1 _ _ r72
          have bF := (((bP.trans (b7.mono (by omega))).setCell (p := ⟨w2.heap.size, 0, none⟩) (by simp only []; omega) (.slice A7 m.length c7)).setCell (p := ⟨w.heap.size + 1 + 1, 0, none⟩) (by simp only []; omega) (.slice A7 m.length c7)).setCell (p := ⟨w.heap.size + 1 + 1, 1, none⟩) (by simp only []; omega) (.slice (some ⟨ga, 0, none⟩) (d.2.length + 1) c5)
          obtain ⟨F, hF⟩ : ∃ F, F = ((w7.setCell ⟨w2.heap.size, 0, none⟩ (.slice A7 m.length c7)).setCell ⟨w.heap.size + 1 + 1, 0, none⟩ (.slice A7 m.length c7)).setCell ⟨w.heap.size + 1 + 1, 1, none⟩ (.slice (some ⟨ga, 0, none⟩) (d.2.length + 1) c5) := ⟨_, rfl⟩
          have hFk : ∀ q, q ≠ w2.heap.size → q ≠ w.heap.size + 1 + 1 → F.heap[q]? = w7.heap[q]? := fun q h1 h2 => by
            rw [hF]; exact (set2_other h2).trans (heap_setCell_other _ _ _ _ h1)
          have hFs : F.heap.size = w7.heap.size := by rw [hF]; simp [World.setCell]
          have vF := o5.keptBy (w' := F) (fun q hq => by
            obtain ⟨a1, a2, a3⟩ := A5q q hq
            exact (hFk q a3 (by omega)).trans ((b7.block q a2).trans (hPk q a3)))
          have zF := VZ.of vF (Nat.le_refl _)
          have iF := hIP.keptBy (w' := F) (fun q h1 h2 _ => (hFk q (by omega) (by omega)).trans (b7.block q (by omega)))
          have oF := OZ.of (hi := F.heap.size) (o7.keptBy (w' := F) (fun q hq => hFk q (by have := (o7.lt q hq).1; omega) (by have := (o7.lt q hq).1; omega))) (Nat.le_refl _)
          have hO : DeskQ F w.heap.size F.heap.size (.agg #[.slice A7 m.length c7, .slice (some ⟨ga, 0, none⟩) (d.2.length + 1) c5]) (m, pastR d.2 d.1) := by
            rw [HPR.out]
            have zF2 : VZ F w1.heap.size F.heap.size (.slice (some ⟨ga, 0, none⟩) (d.2.length + 1) c5) _ := zF
            have iF2 := iF
            have iC := ((iF2.wider (Nat.le_refl _) (show w2.heap.size ≤ w5.heap.size by omega)).cons oF (by omega) (by omega)).wider (lo' := w.heap.size) (by omega) (Nat.le_refl _)
            exact ⟨⟨_, _, _, rfl, zF2.wider (by omega) (Nat.le_refl _), iC, Nat.le_refl _⟩, (fun _ => ⟨_, _, _, rfl, ⟨vF.lower (by omega), fun q hq => (vF.lt q hq).2⟩, iC, Nat.le_refl _⟩)⟩
          rw [hF] at hO
          clear vF zF iF oF hIP oE rM omP bE bP o7 g7 b7 rP2 rP3 hFk hF r73 r72
          go_wp2
          exact bodyPost_ret (v := .tuple #[.agg #[.slice A7 m.length c7, .slice (some ⟨ga, 0, none⟩) (d.2.length + 1) c5], .bool true]) (by simp [results, Tryz.results7, go_sem, *]) rfl ⟨_, rfl, hO, bF⟩
theorem specDeskDoQ_any (d : Dk) (k x y : Int) (v : Value) (w : World) (h : DeskR w w.heap.size v d) : Calls Tryz.prog 7 #[v, .agg #[.int .i64 k, .int .i64 x, .int .i64 y]] w (GivesDeskQ (deskDoR d ((k, x), y)) (deskDoOk d ((k, x), y)) w) := by
  cases hd : deskB d with
  | false => rw [(deskDo_no hd).1, (deskDo_no hd).2]; exact specDeskDo_no d k x y v w h hd
  | true =>
    rw [(deskDo_yes hd).1, (deskDo_yes hd).2]
    by_cases hb : isBack ((k, x), y) = true ∧ 0 < d.2.length
    · obtain ⟨hb, hl⟩ := hb
      have e := of_decide_eq_true hb
      injection e with e1 e2
      injection e1 with e3 e4
      subst e3 e4 e2
      obtain ⟨h1, h2⟩ := do_yes (do_b1 (d := d) (by omega))
      rw [h1, h2]
      obtain ⟨L, hL⟩ : ∃ L, d.2.length = L + 1 := ⟨d.2.length - 1, by omega⟩
      have := specDo_back d L hL v w h hd
      rw [hL]
      exact this
    · exact specDo_else d k x y v w h hd hb
theorem specDeskDo_any (d : Dk) (k x y : Int) (v : Value) (w : World) (h : DeskR w w.heap.size v d) : Calls Tryz.prog 7 #[v, .agg #[.int .i64 k, .int .i64 x, .int .i64 y]] w (GivesDesk2 (deskDoR d ((k, x), y)) (deskDoOk d ((k, x), y)) w) :=
  (specDeskDoQ_any d k x y v w h).mono fun _ _ h => h.two
end
end Go.Proofs.YtkiidmdgdjphjaaGreat
