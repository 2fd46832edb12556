/- The program's ReadText. No conditions but those typed: what the library's variables hold ('PowOk', 'ErrOk'). -/
import Derived.Test.YtjncnjcpcmpmcaaDoorUpI
import Derived.Test.YtjncnjcpcmpmcaaDoorLongI
import Derived.Test.YtjncnjcpcmpmcaaDoorTextJ
import Derived.Test.YtjncnjcpcmpmcaaDoorMove
import Derived.Test.YtjncnjcpcmpmcaaDoorReadS
import Derived.Sort.OwnSorted
namespace Go.Proofs.YtjncnjcpcmpmcaaDoor
open Go.RowKit Go.Sort

/-- rows that may be a picture's: how many, and how long -/
def fewT (r : Bs) : Bool := decide ((cutB 47 r).length ≤ 61 ∧ ∀ l ∈ cutB 47 r, l.length ≤ 61)
def RowsPost (g : Nat) (r : Bs) (w : World) (e : Ending) (w' : World) : Prop := w.grownBy w' (some g) ∧ ∃ v' ok, e = .returned (.tuple #[v', .bool ok]) ∧ ok = fewT r ∧ VOwns 9 w' w.heap.size v' (strZ (if ok then cutB 47 r else []))
theorem VOwns.past {T : TypeId} {w w' : World} {base g : Nat} {v : Value} {l : List Value} (o : VOwns T w base v l) (hg : g < base) (h : w.grownBy w' (some g)) : VOwns T w' base v l :=
  VOwns.grown o h (by
    cases hv : v.ownBlock with
    | none => exact .inl rfl
    | some k => exact .inr (fun e => by have := (o.lt k hv).1; cases e; omega))
set_option maxRecDepth 100000 in
set_option maxHeartbeats 1600000 in
theorem readRows_any (g : Nat) (s : Bs) (w : World) (h : ScanAt w g s) (hl : s.length ≤ 1000000000) : Calls Tryd.prog 71 #[upV g] w (RowsPost g s w) := by
  have hg := h.lt
  have g0 : w.grownBy w (some g) := grown_of_below (Below.refl _ _) g
  obtain ⟨G, hG⟩ : ∃ G, w.heap.size = G := ⟨_, rfl⟩
  have HG := Lib.hid hG
  rw [hG] at hg
  have o0 := VOwns.nil 9 w G
  go_enter Tryd.func71, Tryd.ntmps71
  go_wp2
  go_loopg [4] (s.length + 1) (fun gk v wr => ∃ (R : List Bs) (r : Bs), ScanAt wr g r ∧ r.length < gk ∧ r.length ≤ s.length ∧ cutB 47 s = R ++ cutB 47 r ∧ R.length ≤ 61 ∧ (∀ l ∈ R, l.length ≤ 61) ∧ VOwns 9 wr G v (strZ R) ∧ w.grownBy wr (some g) ∧ G ≤ wr.heap.size)
  case atStart => exact ⟨[], s, h, by omega, Nat.le_refl _, rfl, by simp, by simp, o0, g0, by omega⟩
  case round =>
    clear h o0 g0
    obtain ⟨R, r, hsc, hrk, hrs, hcut, hR61, hRl, ow, hgr, hGr⟩ := hrel
    obtain ⟨A, c, rfl, hc, hm, _⟩ := ow.shape
    rw [strZ_len] at hc ow ⊢
    unfold maxLen at hm
    have HCut := Lib.hid hcut
    have HRl := Lib.hid hRl
    clear hcut hRl
    go_wp2_with fail
    refine (upOne_any 47 (by decide) g r wr hsc (by omega)).mono ?_
    rintro e w2 ⟨g2, part, sign, rest, hc2, rfl, hsc2⟩
    have ow2 := ow.past hg g2
    have hgr2 := grown_trans hgr g2
    have hG2 := Nat.le_trans hGr g2.size
    have hpl : part.length ≤ r.length := by
      rcases hc2 with ⟨_, e, _⟩ | ⟨b, _, e, _⟩
      · rw [e]; exact Nat.le_refl _
      · rw [e, List.length_append]; omega
    have hst : (bs sign).toList = sign := ByteArray.toList_mk sign
    have hps := bs_size part
    have hrw := hc2.rows
    have HC := Lib.hid hc2
    clear hc2 ow hgr hGr g2 hsc
    have hpart : part ∈ cutB 47 s := by
      rw [HCut.out, List.mem_append]
      rcases hrw with ⟨_, e⟩ | ⟨_, e⟩
      · rw [e]; exact .inr (by simp)
      · rw [e]; exact .inr (by simp)
    have hnum : R.length + 1 ≤ (cutB 47 s).length := by
      rw [HCut.out, List.length_append]
      rcases hrw with ⟨_, e⟩ | ⟨_, e⟩
      · rw [e]; simp
      · rw [e]; simp
    by_cases hbad : R.length = 61 ∨ 61 < part.length
    · have hno : fewT s = false := decF (fun k => by
        rcases hbad with hb | hb
        · omega
        · have := k.2 part hpart; omega)
      have HN := Lib.hid hno
      clear hrw hpart hnum hno
      by_cases h1 : R.length = 61
      · have d1 : ((R.length : Int) == 61) = true := by rw [beq_iff_eq]; omega
        clear hbad
        have h1 := Lib.hid h1
        go_wp2
        all_goals
          go_ret2
          exact ⟨hgr2, _, false, rfl, HN.out.symm, VOwns.nil _ _ _⟩
      · have d1 : ((R.length : Int) == 61) = false := by rw [beq_eq_false_iff_ne]; omega
        have d2 : decide ((61 : Int) < (part.length : Int)) = true := decT (by omega)
        clear hbad
        go_wp2
        all_goals
          go_ret2
          exact ⟨hgr2, _, false, rfl, HN.out.symm, VOwns.nil _ _ _⟩
    · have d1 : ((R.length : Int) == 61) = false := by rw [beq_eq_false_iff_ne]; omega
      have d2 : decide ((61 : Int) < (part.length : Int)) = false := decF (by omega)
      have hR60 : R.length ≤ 60 := by omega
      have hp61 : part.length ≤ 61 := by omega
      have HAll := Lib.hid (show ∀ l ∈ R ++ [part], l.length ≤ 61 from fun l hl => by
        rw [List.mem_append, List.mem_singleton] at hl
        rcases hl with hl | rfl
        · exact HRl.out l hl
        · exact hp61)
      have ow1 := ow2.below ((Below.refl _ w2).alloc (Nat.le_refl _) (.cells #[strV part] 9))
      have hgrA := grown_below hgr2 ((Below.refl _ w2).alloc (Nat.le_refl _) (.cells #[strV part] 9))
      have hscA := hsc2.below ((Below.refl _ w2).alloc (Nat.le_refl _) (.cells #[strV part] 9))
      have hGA : G ≤ (w2.alloc (.cells #[strV part] 9)).heap.size := by simp only [World.size_alloc]; omega
      clear hbad hpart hnum ow2 hgr2 hsc2
      have HW := Lib.hid hrw
      clear hrw
      go_wp2_with (at_builtin; refine wpList_append_Str (g := w2.heap.size) ow1 (x := strV part) (one_new _ _ _) rfl (by rw [strZ_len]; omega) hGA rfl (.tmp 20) (.tmp 22) rfl rfl rfl ?_)
      intro v4 w4 o4 g4 hv4
      rw [← strZ_snoc] at o4
      have hgr4 := grown_app hgrA g4 (fun k hk => by have := (ow1.lt k hk).1; have := HG.out; omega)
      have hsc4 : ScanAt w4 g rest := (g4.block g hscA.lt (fun e => by have := (ow1.lt g e.symm).1; omega)).trans hscA
      have hG4 := Nat.le_trans hGA g4.size
      by_cases hs0 : sign = []
      · have hq : (sign == []) = true := by rw [hs0]; rfl
        have hfin : cutB 47 s = R ++ [part] := by
          rcases HW.out with ⟨_, e⟩ | ⟨e, _⟩
          · rw [HCut.out, e]
          · rw [hs0] at e; cases e
        have HF := Lib.hid hfin
        have hyes : fewT s = true := decT (by
          rw [HF.out]
          exact ⟨by rw [List.length_append]; simp; omega, HAll.out⟩)
        have HY := Lib.hid hyes
        clear hs0 hfin hyes
        go_wp2
        go_ret2
        exact ⟨hgr4, v4, true, rfl, HY.out.symm, by rw [if_pos rfl, HF.out, HG.out]; exact o4⟩
      · have hq : (sign == []) = false := by rw [beq_eq_false_iff_ne]; exact hs0
        have hrl : rest.length < r.length := by
          rcases HC.out with ⟨e, _⟩ | ⟨b, _, e, _⟩
          · exact absurd e hs0
          · rw [e, List.length_append, List.length_cons]; omega
        have hnx : cutB 47 s = (R ++ [part]) ++ cutB 47 rest := by
          rcases HW.out with ⟨e, _⟩ | ⟨_, e⟩
          · exact absurd e hs0
          · rw [HCut.out, e]; simp
        have HX := Lib.hid hnx
        clear hs0 hnx
        go_wp2
        go_roundg (rest.length + 1)
        case measure => omega
        case rel => exact ⟨R ++ [part], rest, hsc4, by omega, by omega, HX.out, by rw [List.length_append]; simp; omega, HAll.out, o4, hgr4, hG4⟩
def NearPost (x y : Bs) (w : World) (e : Ending) (w' : World) : Prop := ∃ (ax ay : Int) (ok : Bool), e = .returned (.tuple #[.agg #[.int .i64 ax, .int .i64 ay], .bool ok]) ∧ Below w.heap.size w w' ∧ (ok = true → (Lib.atoiAll x = .ok ax ∧ (-30 ≤ ax ∧ ax ≤ 30) ∧ -30 ≤ ay ∧ ay ≤ 30)) ∧ ∀ a b, Lib.atoiAll x = .ok a → Lib.atoiAll y = .ok b → (-30 ≤ a ∧ a ≤ 30) ∧ -30 ≤ b ∧ b ≤ 30 → ok = true ∧ ax = a ∧ ay = b
theorem keep_far {W : World} {B g : Nat} {a b u v : Value} (hne : B ≠ g) (h0 : W.cell? ⟨B, 0, none⟩ = some a) (h1 : W.cell? ⟨B, 1, none⟩ = some b) :
    ((W.setCell ⟨g, 0, none⟩ u).setCell ⟨g, 1, none⟩ v).cell? ⟨B, 0, none⟩ = some a ∧ ((W.setCell ⟨g, 0, none⟩ u).setCell ⟨g, 1, none⟩ v).cell? ⟨B, 1, none⟩ = some b := by
  have one : ∀ j, ((W.setCell ⟨g, 0, none⟩ u).setCell ⟨g, 1, none⟩ v).cell? ⟨B, j, none⟩ = W.cell? ⟨B, j, none⟩ := fun j => by
    rw [World.cell?_setCell_far _ _ _ _ (fun e => hne e.symm), World.cell?_setCell_far _ _ _ _ (fun e => hne e.symm)]
  exact ⟨(one 0).trans h0, (one 1).trans h1⟩
set_option maxRecDepth 100000 in
set_option maxHeartbeats 1600000 in
theorem nearSpot_any (x y : Bs) (w : World) (hx : x.length ≤ 1000000000) (hy : y.length ≤ 1000000000) (he : ErrOk w) : Calls Tryd.prog 70 #[.string (bs x), .string (bs y)] w (NearPost x y w) := by
  have b0 := (Below.refl w.heap.size w).alloc (Nat.le_refl _) (.cells #[.int .i64 0, .int .i64 0] 32)
  have hW := heap_alloc_new w (.cells #[.int .i64 0, .int .i64 0] 32)
  have hlt : w.heap.size < (w.alloc (.cells #[.int .i64 0, .int .i64 0] 32)).heap.size := by simp
  go_enter Tryd.func70, Tryd.ntmps70
  go_wp2_with fail
  generalize w.alloc (.cells #[.int .i64 0, .int .i64 0] 32) = W at *
  refine (atoi_any x hx W (he.below b0)).mono ?_
  rintro e w1 ⟨b1, h1⟩
  have hW1 := (b1.block w.heap.size hlt).trans hW
  have bb1 := below_step b0 b1
  have hl1 := Nat.lt_of_lt_of_le hlt b1.size
  have HX := Lib.hid h1
  clear b1 hW b0 hlt
  obtain ⟨ax, ex, h1, hxx⟩ : ∃ (ax : Int) (ex : Value), e = .returned (.tuple #[.int .i64 ax, ex]) ∧ ((ex = .nilIface ∧ Lib.atoiAll x = .ok ax) ∨ ((∃ tp p, ex = .iface tp p) ∧ ∀ v, Lib.atoiAll x ≠ .ok v)) := by
    rcases h1 with ⟨v, k1, k2⟩ | ⟨k1, z, tp, p, k2⟩
    · exact ⟨v, _, k2, .inl ⟨rfl, k1⟩⟩
    · exact ⟨z, _, k2, .inr ⟨⟨tp, p, rfl⟩, k1⟩⟩
  subst h1
  clear HX
  have HX := Lib.hid hxx
  go_wp2_with fail
  refine (atoi_any y hy w1 (he.below bb1)).mono ?_
  rintro e w2 ⟨b2, h2⟩
  have hW2 := (b2.block w.heap.size hl1).trans hW1
  have bb2 := below_step bb1 b2
  have hl2 := Nat.lt_of_lt_of_le hl1 b2.size
  clear b2 hW1 bb1 hl1
  obtain ⟨ay, ey, h2, hyy⟩ : ∃ (ay : Int) (ey : Value), e = .returned (.tuple #[.int .i64 ay, ey]) ∧ ((ey = .nilIface ∧ Lib.atoiAll y = .ok ay) ∨ ((∃ tp p, ey = .iface tp p) ∧ ∀ v, Lib.atoiAll y ≠ .ok v)) := by
    rcases h2 with ⟨v, k1, k2⟩ | ⟨k1, z, tp, p, k2⟩
    · exact ⟨v, _, k2, .inl ⟨rfl, k1⟩⟩
    · exact ⟨z, _, k2, .inr ⟨⟨tp, p, rfl⟩, k1⟩⟩
  subst h2
  have HY := Lib.hid hyy
  have b3 := (Below.refl w2.heap.size w2).alloc (Nat.le_refl _) (.cells #[.int .i64 ax, .int .i64 ay] 32)
  have hR := (b3.block w.heap.size hl2).trans hW2
  have hN := heap_alloc_new w2 (.cells #[.int .i64 ax, .int .i64 ay] 32)
  have bb3 := below_step bb2 b3
  obtain ⟨B, hB⟩ : ∃ B, w2.heap.size = B := ⟨_, rfl⟩
  rw [hB] at hN
  have ne1 : w.heap.size ≠ B := by omega
  have ne2 : B ≠ w.heap.size := by omega
  clear hW2 bb2 b3
  rcases hxx with ⟨rfl, hax⟩ | ⟨⟨t1, p1, rfl⟩, hno⟩
  · rcases hyy with ⟨rfl, hay⟩ | ⟨⟨t2, p2, rfl⟩, hno⟩
    · rcases hb : inB ax ay 30 with _ | _
      · have cw := Lib.hid (fun W => gives_is hb (spotWithin_any ax ay 30 W (by omega) (by omega)))
        have HB := Lib.hid hb
        clear hb
        go_wp2_with fail
        generalize w2.alloc (.cells #[.int .i64 ax, .int .i64 ay] 32) = W3 at *
        obtain ⟨c0, c1⟩ := cells_of_row hN
        obtain ⟨r0, r1⟩ := cells_of_row hR
        have c0 : W3.drew.cell? ⟨B, 0, none⟩ = some (.int .i64 ax) := c0
        have c1 : W3.drew.cell? ⟨B, 1, none⟩ = some (.int .i64 ay) := c1
        have f0 := Lib.frozen_of_heap hR 0
        have f1 := Lib.frozen_of_heap hR 1
        have hNl : B < W3.drew.heap.size := (Array.getElem?_eq_some_iff.1 hN).1
        have hRl : w.heap.size < W3.drew.heap.size := (Array.getElem?_eq_some_iff.1 hR).1
        have bb3 := bb3.drew
        go_region_held3 (fun w' => w'.cell? ⟨B, 0, none⟩ = some (.int .i64 ax) ∧ w'.cell? ⟨B, 1, none⟩ = some (.int .i64 ay)) (first | (with_reducible exact ⟨c0, c1⟩) | exact keep_far ne2 c0 c1)
          (first
            | (go_at_call 43; (with_reducible refine (cw.out _).mono ?_); rintro e w7 ⟨rfl, b7⟩; have hN := (b7.block B hNl).trans hN; have hR := (b7.block w.heap.size hRl).trans hR; obtain ⟨c0, c1⟩ := cells_of_row hN; obtain ⟨r0, r1⟩ := cells_of_row hR; have f0 := Lib.frozen_of_heap hR 0; have f1 := Lib.frozen_of_heap hR 1; have bb3 := below_step bb3 b7))
        have bb4 := (bb3.setCell (p := ⟨w.heap.size, 0, none⟩) (Nat.le_refl _) (.int .i64 ax)).setCell (p := ⟨w.heap.size, 1, none⟩) (Nat.le_refl _) (.int .i64 ay)
        go_wp2
        refine bodyPost_ret (v := .tuple #[.agg #[.int .i64 ax, .int .i64 ay], .bool false]) (by simp [results, Tryd.results70, go_sem, *]) rfl ?_
        exact ⟨ax, ay, false, rfl, (by first | exact bb4.drew | exact bb4), fun k => (by cases k), fun a b k1 k2 k3 => (by
          have e1 : a = ax := by rw [hax] at k1; cases k1; rfl
          have e2 : b = ay := by rw [hay] at k2; cases k2; rfl
          have := HB.out
          unfold inB at this
          rw [decide_eq_false_iff_not] at this
          omega)⟩
      · have cw := Lib.hid (fun W => gives_is hb (spotWithin_any ax ay 30 W (by omega) (by omega)))
        have HB := Lib.hid hb
        clear hb
        go_wp2_with fail
        generalize w2.alloc (.cells #[.int .i64 ax, .int .i64 ay] 32) = W3 at *
        obtain ⟨c0, c1⟩ := cells_of_row hN
        obtain ⟨r0, r1⟩ := cells_of_row hR
        have c0 : W3.drew.cell? ⟨B, 0, none⟩ = some (.int .i64 ax) := c0
        have c1 : W3.drew.cell? ⟨B, 1, none⟩ = some (.int .i64 ay) := c1
        have f0 := Lib.frozen_of_heap hR 0
        have f1 := Lib.frozen_of_heap hR 1
        have hNl : B < W3.drew.heap.size := (Array.getElem?_eq_some_iff.1 hN).1
        have hRl : w.heap.size < W3.drew.heap.size := (Array.getElem?_eq_some_iff.1 hR).1
        have bb3 := bb3.drew
        go_region_held3 (fun w' => w'.cell? ⟨B, 0, none⟩ = some (.int .i64 ax) ∧ w'.cell? ⟨B, 1, none⟩ = some (.int .i64 ay)) (first | (with_reducible exact ⟨c0, c1⟩) | exact keep_far ne2 c0 c1)
          (first
            | (go_at_call 43; (with_reducible refine (cw.out _).mono ?_); rintro e w7 ⟨rfl, b7⟩; have hN := (b7.block B hNl).trans hN; have hR := (b7.block w.heap.size hRl).trans hR; obtain ⟨c0, c1⟩ := cells_of_row hN; obtain ⟨r0, r1⟩ := cells_of_row hR; have f0 := Lib.frozen_of_heap hR 0; have f1 := Lib.frozen_of_heap hR 1; have bb3 := below_step bb3 b7))
        have bb4 := (bb3.setCell (p := ⟨w.heap.size, 0, none⟩) (Nat.le_refl _) (.int .i64 ax)).setCell (p := ⟨w.heap.size, 1, none⟩) (Nat.le_refl _) (.int .i64 ay)
        go_wp2
        refine bodyPost_ret (v := .tuple #[.agg #[.int .i64 ax, .int .i64 ay], .bool true]) (by simp [results, Tryd.results70, go_sem, *]) rfl ?_
        exact ⟨ax, ay, true, rfl, (by first | exact bb4.drew | exact bb4), fun _ => (by
          have := HB.out
          unfold inB at this
          rw [decide_eq_true_eq] at this
          exact ⟨hax, by omega, by omega⟩), fun a b k1 k2 k3 => (by
          have e1 : a = ax := by rw [hax] at k1; cases k1; rfl
          have e2 : b = ay := by rw [hay] at k2; cases k2; rfl
          exact ⟨rfl, e1.symm, e2.symm⟩)⟩
    · go_wp2_with fail
      generalize w2.alloc (.cells #[.int .i64 ax, .int .i64 ay] 32) = W3 at *
      obtain ⟨c0, c1⟩ := cells_of_row hN
      obtain ⟨r0, r1⟩ := cells_of_row hR
      have f0 := Lib.frozen_of_heap hR 0
      have f1 := Lib.frozen_of_heap hR 1
      have bb4 := (bb3.setCell (p := ⟨w.heap.size, 0, none⟩) (Nat.le_refl _) (.int .i64 ax)).setCell (p := ⟨w.heap.size, 1, none⟩) (Nat.le_refl _) (.int .i64 ay)
      have HN := Lib.hid hno
      clear hno hN hR
      go_region
      all_goals
        go_wp2
        refine bodyPost_ret (v := .tuple #[.agg #[.int .i64 ax, .int .i64 ay], .bool false]) (by simp [results, Tryd.results70, go_sem, *]) rfl ?_
        exact ⟨ax, ay, false, rfl, (by first | exact bb4.drew | exact bb4), fun k => (by cases k), fun a b k1 k2 => absurd k2 (HN.out b)⟩
  · go_wp2_with fail
    generalize w2.alloc (.cells #[.int .i64 ax, .int .i64 ay] 32) = W3 at *
    obtain ⟨c0, c1⟩ := cells_of_row hN
    obtain ⟨r0, r1⟩ := cells_of_row hR
    have f0 := Lib.frozen_of_heap hR 0
    have f1 := Lib.frozen_of_heap hR 1
    have bb4 := (bb3.setCell (p := ⟨w.heap.size, 0, none⟩) (Nat.le_refl _) (.int .i64 ax)).setCell (p := ⟨w.heap.size, 1, none⟩) (Nat.le_refl _) (.int .i64 ay)
    have HN := Lib.hid hno
    clear hno hN hR hyy
    go_region
    all_goals
      go_wp2
      refine bodyPost_ret (v := .tuple #[.agg #[.int .i64 ax, .int .i64 ay], .bool false]) (by simp [results, Tryd.results70, go_sem, *]) rfl ?_
      exact ⟨ax, ay, false, rfl, (by first | exact bb4.drew | exact bb4), fun k => (by cases k), fun a b k1 k2 => absurd k1 (HN.out a)⟩
theorem reverse_any (R : List Bs) (v : Value) (b : Nat) (w : World) (h : VOwns 9 w b v (strZ R)) (h0 : R ≠ []) (hR : R.length ≤ 1000000) :
    Calls Tryd.prog 72 #[v] w fun e w' => e = .returned (.tuple #[]) ∧ VOwns 9 w' b v (strZ R.reverse) ∧ w.grownBy w' v.ownBlock := by
  have hlen : 0 < R.length := List.length_pos_iff.2 h0
  rcases h.2 with ⟨_, hz⟩ | ⟨g, cap, cur, rfl, hb, hg, hn, hc, hs, ht⟩
  · rw [strZ_len] at hz; omega
  · rw [strZ_len] at hn ht ⊢
    rw [Nat.mul_one] at ht
    refine (Any.slices_Reverse_string lay17 g 0 cap R w (holds_of_block hg ht) (by omega)).mono ?_
    rintro e w' ⟨rfl, n, rfl⟩
    have e1 : ∀ W : World, grow W #[] = W := fun W => by unfold grow; simp
    have o := ownsRow_sorted (n := n) (os := #[]) (ts := R.reverse) (ss := R) (List.length_reverse) hb hg hn hc hs
    have g' := grownBy_sorted (w := w) (g := g) (n := n) (os := #[]) R.reverse.toArray
    rw [e1] at o g'
    refine ⟨rfl, ?_, g'⟩
    unfold VOwns
    rw [strZ_len, List.length_reverse]
    exact o
/-- what a text is parted into, if it is a picture's -/
theorem text_cut {q : List Sp} {s x s1 r1 y s2 r2 : Bs} (hq : picB q = true) (h0 : q ≠ []) (ht : textT q = s) (h1 : Cut2 [44] s x s1 r1) (h2 : Cut2 [58] r1 y s2 r2) :
    x = numB (boxL q).1.1 ∧ y = numB (boxL q).1.2 ∧ cutB 47 r2 = rowsT q := by
  have e := ht
  rw [textT_yes hq h0] at e
  obtain ⟨a1, _, a3⟩ := h1.one e.symm (no_byte (by decide) (by decide))
  obtain ⟨b1, _, b3⟩ := h2.one a3 (no_byte (by decide) (by decide))
  exact ⟨a1, b1, by rw [b3]; exact cut_rows hq h0⟩
theorem cut2_le {cs r part sign rest : Bs} (h : Cut2 cs r part sign rest) : part.length ≤ r.length ∧ rest.length ≤ r.length := by
  rcases h with ⟨_, e, e2, _⟩ | ⟨b, _, e, _⟩
  · rw [e, e2]; exact ⟨Nat.le_refl _, Nat.zero_le _⟩
  · rw [e, List.length_append, List.length_cons]; omega
end Go.Proofs.YtjncnjcpcmpmcaaDoor
