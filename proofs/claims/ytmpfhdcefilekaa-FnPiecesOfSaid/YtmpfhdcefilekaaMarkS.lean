/- What the model marks: l7Mark. No conditions but those typed. -/
import Derived.Test.YtmpfhdcefilekaaPlaceS
import Derived.Test.YtmpfhdcefilekaaOnes
import Derived.Test.YtmpfhdcefilekaaSpots
import Derived.Deep.LoopGhost
import Derived.Deep.RegionHeld3
namespace Go.Proofs.Ytmpfhdcefilekaa
open Go.RowKit Go.Sort

def boolsV (l : List Bool) : List Value := l.map fun b => .bool b
def intsV (l : List Nat) : List Value := l.map fun (k : Nat) => .int .i64 (k : Int)
theorem boolsV_length (l : List Bool) : (boolsV l).length = l.length := List.length_map _
theorem intsV_length (l : List Nat) : (intsV l).length = l.length := List.length_map _
theorem boolsV_at {l : List Bool} {k : Nat} {b : Bool} (h : l[k]? = some b) : (boolsV l)[k]? = some (.bool b) := by unfold boolsV; rw [List.getElem?_map, h]; rfl
theorem boolsV_set (l : List Bool) (k : Nat) (b : Bool) : (boolsV l).set k (.bool b) = boolsV (l.set k b) := by unfold boolsV; rw [List.map_set]
theorem intsV_append (l m : List Nat) : intsV (l ++ m) = intsV l ++ intsV m := List.map_append
theorem intsV_last (l : List Nat) (k : Nat) : (intsV (l ++ [k]))[l.length]? = some (.int .i64 (k : Int)) := by
  unfold intsV
  rw [List.getElem?_map, List.getElem?_append_right (Nat.le_refl _), Nat.sub_self]; rfl
theorem intsV_take (l : List Nat) (k : Nat) : (intsV (l ++ [k])).take l.length = intsV l := by
  unfold intsV
  rw [← List.map_take, List.take_left]
theorem boolsV_replicate (n : Nat) : List.replicate n (Value.bool false) = boolsV (List.replicate n false) := by
  unfold boolsV; rw [List.map_replicate]
/-- the state between two rounds -/
structure MarkW (e : Bool) (p : List Sp) (sn0 : List Bool) (s : Sp) (w wr : World) (base g n cap : Nat) (t : Value) (k : Nat) (m : Int) (sn : List Bool) (td : List Nat) : Prop where
  I : MarkI e p sn0 s sn td k m
  so : VOwns 4 wr base (.slice (some ⟨g, 0, none⟩) n cap) (boolsV sn)
  to : VOwns 3 wr w.heap.size t (intsV td)
  gr : w.grownBy wr (some g)
theorem MarkW.below {e : Bool} {p : List Sp} {sn0 : List Bool} {s : Sp} {w wr w' : World} {base g n cap : Nat} {t : Value} {k : Nat} {m : Int} {sn : List Bool} {td : List Nat} (M : MarkW e p sn0 s w wr base g n cap t k m sn td) (hb : Below wr.heap.size wr w') : MarkW e p sn0 s w w' base g n cap t k m sn td := ⟨M.I, M.so.below hb, M.to.below hb, grown_below M.gr hb⟩
theorem MarkW.by {e : Bool} {p : List Sp} {sn0 : List Bool} {s : Sp} {w wr : World} {base g n cap : Nat} {t : Value} {k : Nat} {m m' : Int} {sn : List Bool} {td : List Nat} (M : MarkW e p sn0 s w wr base g n cap t k m sn td) (I : MarkI e p sn0 s sn td k m') : MarkW e p sn0 s w wr base g n cap t k m' sn td := ⟨I, M.so, M.to, M.gr⟩
theorem off_at (px py xx yy : Int) : offI (px, py) (px + xx, py + yy) = (yy + 1) * 3 + (xx + 1) := by unfold offI; simp only []; omega
theorem VOwns.notat {T : TypeId} {w : World} {base g : Nat} {v : Value} {l : List Value} (h : VOwns T w base v l) (hg : g < base) : v.ownBlock = none ∨ v.ownBlock ≠ some g := by
  cases hv : v.ownBlock with
  | none => exact .inl rfl
  | some k => exact .inr fun e => by have := (h.lt k hv).1; injection e with e; omega
def MarkPost (e : Bool) (p : List Sp) (sn0 : List Bool) (s : Sp) (w : World) (base g n cap : Nat) (en : Ending) (w' : World) : Prop :=
  en = .returned (.tuple #[]) ∧ ∃ sn k, MarkI e p sn0 s sn [] k 9 ∧ VOwns 4 w' base (.slice (some ⟨g, 0, none⟩) n cap) (boolsV sn) ∧ w.grownBy w' (some g)
set_option maxRecDepth 100000 in
set_option maxHeartbeats 3200000 in
theorem l7Mark_any (e : Bool) (ps : List Sp) (v : Value) (sn0 : List Bool) (at' base g n cap : Nat) (s : Sp) (w : World) (h : Reads w g v ps) (hs : Sorted ps) (hl : ps.length ≤ 10000) (hn : ∀ a ∈ ps, NearS a)
    (hso : VOwns 4 w base (.slice (some ⟨g, 0, none⟩) n cap) (boolsV sn0)) (hsl : sn0.length = ps.length) (hat : ps[at']? = some s) (hc : Closed e ps sn0) :
    Calls Try.prog 71 #[v, .int .i64 at', .bool e, .slice (some ⟨g, 0, none⟩) n cap] w (MarkPost e ps sn0 s w base g n cap) := by
  obtain ⟨A, c, rfl, hcc, hm, hA, hr⟩ := h.is
  unfold maxLen at hm
  have hatl := (List.getElem?_eq_some_iff.1 hat).1
  obtain ⟨b, off, rfl, hb, hcell⟩ := hr (by omega)
  obtain ⟨hbg, hgw⟩ := hso.lt g rfl
  have hn0 := hso.len
  rw [boolsV_length] at hn0
  have hnl : n = ps.length := by omega
  have hfz := hso.free at'
  have hcapn : n ≤ cap ∧ cap ≤ maxLen := by
    obtain ⟨A, c, h1, h2, h3, _⟩ := hso.shape
    cases h1
    exact ⟨by omega, h3⟩
  unfold maxLen at hcapn
  have hb0' : at' < n := by omega
  obtain ⟨z0, hz0⟩ : ∃ z, sn0[at']? = some z := ⟨_, List.getElem?_eq_getElem (by omega)⟩
  have hcs := (hso.cell (k := at') (by rw [boolsV_length]; omega)).trans (boolsV_at hz0)
  have hset := hso.set at' (.bool true)
  rw [boolsV_set] at hset
  have hg1 := setGrown w g at' (.bool true)
  have HB := Lib.hid (MarkI.begin hsl hat hc)
  clear hz0 hso
  have HI := Lib.hid (And.intro hnl hn0)
  clear hnl hn0
  go_enter Try.func71, Try.ntmps71
  go_wp2
  have hsz : (w.setCell ⟨g, at', none⟩ (.bool true)).heap.size = w.heap.size := by simp [World.setCell]
  have hto := VOwns.one 3 (w.setCell ⟨g, at', none⟩ (.bool true)) w.heap.size (.int .i64 (at' : Int)) (by rw [hsz]; exact Nat.le_refl _)
  rw [hsz] at hto
  have hso1 := hset.below ((Below.refl _ _).alloc (Nat.le_refl _) (.cells #[.int .i64 (at' : Int)] 3))
  have hgr1 := grown_below hg1 ((Below.refl _ _).alloc (Nat.le_refl _) (.cells #[.int .i64 (at' : Int)] 3))
  have hf1 : falses (sn0.set at' true) ≤ 10000 := by
    have := List.count_le_length (a := false) (l := sn0.set at' true)
    rw [List.length_set] at this
    unfold falses; omega
  obtain ⟨W, hW⟩ : ∃ W, W = (w.setCell ⟨g, at', none⟩ (.bool true)).alloc (.cells #[.int .i64 at'] 3) := ⟨_, rfl⟩
  rw [← hW] at hto hso1 hgr1 ⊢
  clear hW hset hg1 hcs hfz hsz
  go_loopg [8] (2 * falses (sn0.set at' true) + 1) (fun gk t wr => ∃ (sn : List Bool) (td : List Nat) (k : Nat), gk = 2 * falses sn + td.length ∧ gk ≤ 30000 ∧ MarkW e ps sn0 s w wr base g n cap t k 9 sn td)
  case atStart => exact ⟨_, [at'], 0, rfl, by omega, ⟨HB.out, hso1, hto, hgr1⟩⟩
  case round =>
    clear hto hso1 hgr1 hf1
    obtain ⟨sn, td, k0, hgk, hgl, M⟩ := hrel
    obtain ⟨At, ct, rfl, hct1, hct2, hAt⟩ := M.to.shape
    unfold maxLen at hct2
    rw [intsV_length] at hct1 hAt ⊢
    by_cases h0 : td.length = 0
    · obtain rfl := List.eq_nil_of_length_eq_zero h0
      have HM := Lib.hid M
      clear M
      go_wp2
      go_end0
      exact ⟨rfl, sn, k0, HM.out.I, HM.out.so, HM.out.gr⟩
    · obtain ⟨td, k, rfl⟩ : ∃ l k, td = l ++ [k] := ⟨td.dropLast, td.getLast (fun h => h0 (by rw [h]; rfl)), (List.dropLast_concat_getLast _).symm⟩
      obtain ⟨gt, rfl, hgt1, hgt2⟩ := hAt (by omega)
      rw [List.length_append, List.length_singleton] at *
      have htc := (M.to.cell (k := td.length) (by rw [intsV_length]; simp)).trans (intsV_last td k)
      have hsm : td.length ≤ 30000 := by omega
      obtain ⟨a, hka, hra⟩ := M.I.popped
      obtain ⟨px, py⟩ := a
      have M1 : MarkW e ps sn0 s w wr base g n cap (.slice (some ⟨gt, 0, none⟩) td.length ct) k 0 sn td := by
        have := M.to.take (k := td.length) (by rw [intsV_length]; simp)
        rw [intsV_take] at this
        exact ⟨M.I.pop, M.so, this, M.gr⟩
      have hlt1 : 2 * falses sn + td.length < gk := by omega
      have HKA := Lib.hid (And.intro hka hra)
      clear hgk M hka hra hAt h0
      go_wp2
      go_loopw [8, 10] (fun t y wr => ∃ (yy : Int) (sn : List Bool) (td : List Nat), y = .int .i64 yy ∧ -1 ≤ yy ∧ yy ≤ 2 ∧ 2 * falses sn + td.length < gk ∧ MarkW e ps sn0 s w wr base g n cap t k ((yy + 1) * 3) sn td) (fun _ y _ => (2 - intOf y).toNat)
      case atStart => exact ⟨-1, sn, td, rfl, by omega, by omega, hlt1, M1⟩
      case round =>
        clear M1 hlt1 htc hsm hct1 hct2 hgt1 hgt2
        obtain ⟨yy, sn, td, rfl, hy1, hy2, hlt1, M1⟩ := hrel
        by_cases hy : yy ≤ 1
        · go_wp2
          go_loopw [8, 11] (fun t x wr => ∃ (xx : Int) (sn : List Bool) (td : List Nat), x = .int .i64 xx ∧ -1 ≤ xx ∧ xx ≤ 2 ∧ 2 * falses sn + td.length < gk ∧ MarkW e ps sn0 s w wr base g n cap t k ((yy + 1) * 3 + (xx + 1)) sn td) (fun _ x _ => (2 - intOf x).toNat)
          case atStart => exact ⟨-1, sn, td, rfl, by omega, by omega, hlt1, by rw [show (-1 : Int) + 1 = 0 from rfl, Int.add_zero]; exact M1⟩
          case round =>
            clear M1 hlt1
            obtain ⟨xx, sn, td, rfl, hx1, hx2, hlt1, M1⟩ := hrel
            by_cases hx : xx ≤ 1
            · have hka := HKA.out.1
              have hna := hn _ (List.mem_of_getElem? hka)
              unfold NearS at hna
              simp only at hna
              have hbW : Below g w wr := (Below.refl _ _).grown M1.gr (Nat.le_of_lt hgw) (fun k hk => by cases hk; exact Nat.le_refl _)
              obtain ⟨c0, c1⟩ := hcell k px py hka
              have hkl := (List.getElem?_eq_some_iff.1 hka).1
              have d0 := (hbW.cell (p := ⟨b, off + k * 2, none⟩) hb).trans c0
              have d1 := (hbW.cell (p := ⟨b, off + k * 2 + 1, none⟩) hb).trans c1
              have hgr := M1.gr.size
              have hwx : IntKind.i64.wrap (px + xx) = px + xx := IntWalk.i64_in _ (by omega)
              have hwy : IntKind.i64.wrap (py + yy) = py + yy := IntWalk.i64_in _ (by omega)
              have ne0 := World.new_ne wr _ d0
              have ne1 := World.new_ne wr _ d1
              have hm3 : (0 : Int) ≤ (k : Int) := Int.natCast_nonneg _
              have hm4 : (k : Int) < (ps.length : Int) := by omega
              have hb2 : b < wr.heap.size := by omega
              clear c0 c1 hka
              go_wp2_with fail
              go_region_held3 (fun w' => w'.cell? ⟨b, off + k * 2, none⟩ = some (.int .i64 px) ∧ w'.cell? ⟨b, off + k * 2 + 1, none⟩ = some (.int .i64 py)) (go_keep) (fail)
              have hbA : Below wr.heap.size wr ((wr.alloc (.cells #[.int .i64 (px + xx), .int .i64 (py + yy)] 42)).drew) := ((Below.refl _ _).alloc (Nat.le_refl _) _).drew
              have g0 : ((wr.alloc (.cells #[.int .i64 (px + xx), .int .i64 (py + yy)] 42)).drew).cell? ⟨wr.heap.size, 0, none⟩ = some (.int .i64 (px + xx)) := by simp [go_sem]
              have g1 : ((wr.alloc (.cells #[.int .i64 (px + xx), .int .i64 (py + yy)] 42)).drew).cell? ⟨wr.heap.size, 1, none⟩ = some (.int .i64 (py + yy)) := by simp [go_sem]
              have hgs : wr.heap.size < ((wr.alloc (.cells #[.int .i64 (px + xx), .int .i64 (py + yy)] 42)).drew).heap.size := by simp [go_sem]
              go_wp2_with fail
              generalize (wr.alloc (.cells #[.int .i64 (px + xx), .int .i64 (py + yy)] 42)).drew = W1 at hbA g0 g1 hgs ⊢
              have hwq : w.heap.size ≤ wr.heap.size := hgr
              have MA := M1.below hbA
              have hbg' : g < wr.heap.size := by omega
              have hbB := hbW.trans (hbA.mono (Nat.le_of_lt hbg'))
              have e0 := cell_regrown ((hbA.cell (p := ⟨b, off + k * 2, none⟩) hb2).trans d0)
              have e1 := cell_regrown ((hbA.cell (p := ⟨b, off + k * 2 + 1, none⟩) hb2).trans d1)
              have e2 := cell_regrown g0
              have e3 := cell_regrown g1
              clear M1 d0 d1 ne0 ne1
              generalize wr.heap.size = q at hbA g0 g1 hgs hgr hb2 hbW e2 e3 hwq hbg' ⊢
              have hoff := off_at px py xx yy
              have hcc2 : -1 ≤ ((px + xx, py + yy) : Sp).1 - ((px, py) : Sp).1 ∧ ((px + xx, py + yy) : Sp).1 - ((px, py) : Sp).1 ≤ 1 := by simp only []; omega
              have HO := Lib.hid (And.intro hoff hcc2)
              clear hoff hcc2
              rcases hnb : nearB e (px, py) (px + xx, py + yy) with _ | _
              · have HNB := Lib.hid hnb
                have I2 := MA.I.skip hs HKA.out.1 HO.out.1 HO.out.2 (.inl hnb)
                clear hnb
                go_wp2
                refine wp_region_quiet_below (by kernel_rfl) (by kernel_rfl) ?_
                repeat (go_big_quiet_step (first | (go_at_call 94; with_reducible exact gives_regrown (fun w1 _ => l7Near_lit HNB.out (by omega) (by omega)) _ _)))
                refine wpQuiet_nil ?_
                intro W2 hw'
                obtain ⟨⟨dq, osq⟩, hw''⟩ := hw'
                have hb3 : Below W1.heap.size W1 W2 := by rw [hw'']; exact below_regrown _ _ _
                clear hw'' dq osq
                have M2 := (MA.by I2).below hb3
                go_wp2
                go_roundw
                case rel => exact ⟨xx + 1, sn, td, by go_num, by omega, by omega, hlt1, by rw [show (yy + 1) * 3 + (xx + 1 + 1) = (yy + 1) * 3 + (xx + 1) + 1 by omega]; exact M2⟩
                case measure => simp [intOf]; omega
              · have HNB := Lib.hid hnb
                clear hnb
                go_wp2
                refine wp_region_quiet_below (by kernel_rfl) (by kernel_rfl) ?_
                repeat (go_big_quiet_step (first | (go_at_call 94; with_reducible exact gives_regrown (fun w1 _ => l7Near_lit HNB.out (by omega) (by omega)) _ _)))
                refine wpQuiet_nil ?_
                intro W2 hw'
                obtain ⟨⟨dq, osq⟩, hw''⟩ := hw'
                have hb3 : Below W1.heap.size W1 W2 := by rw [hw'']; exact below_regrown _ _ _
                clear hw'' dq osq
                have M2 := MA.below hb3
                have q0 := (hb3.cell (p := ⟨q, 0, none⟩) hgs).trans g0
                have q1 := (hb3.cell (p := ⟨q, 1, none⟩) hgs).trans g1
                have hgW2 : g ≤ W2.heap.size := by have := hb3.size; omega
                have hrp := (h.below (hbB.trans (hb3.mono (by omega)))).more hgW2
                clear e0 e1 e2 e3 MA g0 g1
                by_cases hin : (px + xx, py + yy) ∈ ps
                · obtain ⟨j, hj⟩ := List.mem_iff_getElem?.1 hin
                  have hjl := (List.getElem?_eq_some_iff.1 hj).1
                  obtain ⟨z, hz⟩ : ∃ z, sn[j]? = some z := ⟨_, List.getElem?_eq_getElem (by rw [M2.I.len]; exact hjl)⟩
                  have HJ := Lib.hid (And.intro hj hz)
                  clear hin hj
                  go_wp2_with fail
                  refine (l7Place_yes HJ.out.1 hrp hs (by omega)).mono ?_
                  rintro e' w3 ⟨rfl, hb4⟩
                  have M3 := M2.below hb4
                  have hcz := (M3.so.cell (k := j) (by rw [boolsV_length, M3.I.len]; exact hjl)).trans (boolsV_at HJ.out.2)
                  have hj0 : (0 : Int) ≤ (j : Int) := Int.natCast_nonneg _
                  have hjn : j < n := by have := HI.out.1; omega
                  have hjn2 : (j : Int) < (n : Int) := by omega
                  clear M2 hz
                  cases z
                  · have hfz := M3.so.free j
                    have I4 := M3.I.push hs HKA.out.1 HKA.out.2 HO.out.1 HNB.out HJ.out.1
                    have so4 := M3.so.set j (.bool true)
                    rw [boolsV_set] at so4
                    have to4 := M3.to.setOther (a := ⟨g, j, none⟩) (M3.to.notat hgw) (.bool true)
                    have gr4 := grown_trans M3.gr (setGrown w3 g j (.bool true))
                    have hf4 := falses_set HJ.out.2
                    have hw3 : w.heap.size ≤ w3.heap.size := M3.gr.size
                    have hlen5 : td.length ≤ 30000 := by omega
                    have hsz4 : (w3.setCell ⟨g, j, none⟩ (.bool true)).heap.size = w3.heap.size := by simp [World.setCell]
                    have box4 : Below (w3.setCell ⟨g, j, none⟩ (.bool true)).heap.size (w3.setCell ⟨g, j, none⟩ (.bool true)) ((w3.setCell ⟨g, j, none⟩ (.bool true)).alloc (.cells #[.int .i64 j] 3)) := box_below _ _ _
                    have so5 := so4.below box4
                    have to5 := to4.below box4
                    have gr5 := grown_below gr4 box4
                    clear M3 so4 to4 gr4
                    go_wp2_with (at_builtin; refine wpList_append_Int (g := w3.heap.size) (x := .int .i64 (j : Int)) to5 (by simp [go_sem]) rfl (by rw [intsV_length]; omega) (by simp only [World.size_alloc, hsz4]; omega) rfl (.tmp 79) (.tmp 81) rfl rfl rfl ?_)
                    intro v6 w6 to6 g6 hv6
                    have so6 := so5.grown g6 (.inr fun e => by
                      rcases to5.notat hgw with h | h
                      · rw [h] at e; cases e
                      · exact h e.symm)
                    have gr6 := grown_app gr5 g6 (fun k hk => (to5.lt k hk).1)
                    have to7 : VOwns 3 w6 w.heap.size v6 (intsV (td ++ [j])) := by rw [intsV_append]; exact to6
                    clear to5 so5 gr5 to6
                    go_wp2
                    go_roundw
                    case rel => exact ⟨xx + 1, sn.set j true, td ++ [j], by go_num, by omega, by omega, by rw [List.length_append, List.length_singleton]; omega, by rw [show (yy + 1) * 3 + (xx + 1 + 1) = (yy + 1) * 3 + (xx + 1) + 1 by omega]; exact ⟨I4, so6, to7, gr6⟩⟩
                    case measure => simp [intOf]; omega
                  · have I4 := M3.I.skip hs HKA.out.1 HO.out.1 HO.out.2 (.inr (.inr ⟨j, HJ.out.1, HJ.out.2⟩))
                    have M4 := M3.by I4
                    clear M3
                    go_wp2
                    go_roundw
                    case rel => exact ⟨xx + 1, sn, td, by go_num, by omega, by omega, hlt1, by rw [show (yy + 1) * 3 + (xx + 1 + 1) = (yy + 1) * 3 + (xx + 1) + 1 by omega]; exact M4⟩
                    case measure => simp [intOf]; omega
                · have HJ := Lib.hid hin
                  clear hin
                  go_wp2_with fail
                  refine (l7Place_no HJ.out hrp hs (by omega)).mono ?_
                  rintro e' w3 ⟨rfl, hb4⟩
                  have I4 := M2.I.skip hs HKA.out.1 HO.out.1 HO.out.2 (.inr (.inl HJ.out))
                  have M4 := (M2.by I4).below hb4
                  clear M2
                  go_wp2
                  go_roundw
                  case rel => exact ⟨xx + 1, sn, td, by go_num, by omega, by omega, hlt1, by rw [show (yy + 1) * 3 + (xx + 1 + 1) = (yy + 1) * 3 + (xx + 1) + 1 by omega]; exact M4⟩
                  case measure => simp [intOf]; omega
            · obtain rfl : xx = 2 := by omega
              go_wp2
              go_roundw
              case rel => exact ⟨yy + 1, sn, td, by go_num, by omega, by omega, hlt1, by rw [show (yy + 1 + 1) * 3 = (yy + 1) * 3 + (2 + 1) by omega]; exact M1⟩
              case measure => simp [intOf]; omega
        · obtain rfl : yy = 2 := by omega
          go_wp2
          go_roundg (2 * falses sn + td.length)
          case measure => exact hlt1
          case rel => exact ⟨sn, td, k, rfl, by omega, M1⟩
end Go.Proofs.Ytmpfhdcefilekaa
