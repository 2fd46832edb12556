/- The program's LongRow. No conditions but those typed: what the library's two sentinels hold ('ErrOk'). -/
import Derived.Test.YtjncnjcpcmpmcaaDoorUpI
import Derived.Test.YtjncnjcpcmpmcaaDoorShortI
namespace Go.Proofs.YtjncnjcpcmpmcaaDoor
open Go.RowKit Go.Sort

/-- the scanner's upTo as a value -/
abbrev upV (g : Nat) : Value := .func (.func 46) #[.pointer (some ⟨g, 0, none⟩)] #[]
theorem ErrOk.grown {w w' : World} {g : Nat} {r : Bs} (h : ErrOk w) (hs : ScanAt w g r) (hg : w.grownBy w' (some g)) : ErrOk w' := by
  have one : ∀ {k : Nat} {tp : TypeId} {p : Value}, w.cell? ⟨k, 0, none⟩ = some (.iface tp p) → w'.cell? ⟨k, 0, none⟩ = some (.iface tp p) := fun {k tp p} hc => by
    have hlt := World.block_lt_of_cell? _ _ hc
    have hne : some k ≠ some g := fun e => by
      have e := Option.some.inj e
      subst e
      rw [hs.cell] at hc
      cases hc
    have hb := hg.block k hlt hne
    rw [← hc]
    unfold World.cell?
    rw [hb]
  obtain ⟨⟨t1, p1, h1⟩, t2, p2, h2⟩ := h
  exact ⟨⟨t1, p1, one h1⟩, t2, p2, one h2⟩
def CntPost (d : Bs) (w : World) (e : Ending) (w' : World) : Prop := ∃ (z : Int) (ok : Bool), e = .returned (.tuple #[.int .i64 z, .bool ok]) ∧ Below w.heap.size w w' ∧ (ok = true → 1 ≤ z ∧ z ≤ 61) ∧ ((cntR d).2 = true → ok = true ∧ z = (cntR d).1)
set_option maxRecDepth 100000 in
set_option maxHeartbeats 800000 in
theorem runLength_any (d : Bs) (hl : d.length ≤ 1000000000) (w : World) (he : ErrOk w) : Calls Tryd.prog 85 #[.string (bs d)] w (CntPost d w) := by
  have hdt : (bs d).toList = d := ByteArray.toList_mk d
  by_cases h0 : d = []
  · have hq : (d == []) = true := by rw [h0]; rfl
    have hc : cntR d = (1, true) := by unfold cntR; rw [if_pos h0]
    clear h0
    go_enter Tryd.func85, Tryd.ntmps85
    go_wp2
    go_ret2
    exact ⟨1, true, rfl, Below.refl _ _, fun _ => by omega, fun _ => ⟨rfl, by rw [hc]⟩⟩
  · have hq : (d == []) = false := by rw [beq_eq_false_iff_ne]; exact h0
    have ca := Lib.hid (atoi_any d hl w he)
    have h0 := Lib.hid h0
    go_enter Tryd.func85, Tryd.ntmps85
    go_wp2_with fail
    refine ca.out.mono ?_
    rintro e w1 ⟨b1, hx⟩
    clear ca
    rcases hx with ⟨v, hv, rfl⟩ | ⟨hv, z, tp, p, rfl⟩
    · have hc : cntR d = (v, decide (1 ≤ v ∧ v ≤ 61)) := by unfold cntR; rw [if_neg h0.out, hv]
      have hc := Lib.hid hc
      clear hv
      by_cases g1 : 1 ≤ v
      · have d1 : decide ((1 : Int) ≤ v) = true := decT g1
        by_cases g2 : v ≤ 61
        · have d2 : decide (v ≤ 61) = true := decT g2
          go_wp2
          go_ret2
          exact ⟨v, true, rfl, b1, fun _ => ⟨g1, g2⟩, fun _ => ⟨rfl, by rw [hc.out]⟩⟩
        · have d2 : decide (v ≤ 61) = false := decF g2
          go_wp2
          go_ret2
          exact ⟨v, false, rfl, b1, fun k => (by cases k), fun k => by rw [hc.out] at k; have := (of_decide_eq_true k).2; omega⟩
      · have d1 : decide ((1 : Int) ≤ v) = false := decF g1
        go_wp2
        go_ret2
        exact ⟨v, false, rfl, b1, fun k => (by cases k), fun k => by rw [hc.out] at k; have := (of_decide_eq_true k).1; omega⟩
    · have hc : cntR d = (0, false) := by
        unfold cntR
        rw [if_neg h0.out]
        split
        · rename_i v h; exact absurd h (hv v)
        · rfl
      have hc := Lib.hid hc
      clear hv
      go_wp2
      go_ret2
      exact ⟨z, false, rfl, b1, fun k => (by cases k), fun k => by rw [hc.out] at k; cases k⟩
theorem IsB.grown {B b g : Nat} {l : Bs} {w w' : World} (h : IsB B b l w) (hg : w.grownBy w' (some g)) (hlt : g < B) : IsB B b l w' := h.keep fun i hi hl => hg.block i hl (fun e => by have := Option.some.inj e; omega)
theorem ErrOk.lt {w : World} (h : ErrOk w) : 4 < w.heap.size ∧ 5 < w.heap.size := by
  obtain ⟨⟨t1, p1, h1⟩, t2, p2, h2⟩ := h
  exact ⟨World.block_lt_of_cell? _ _ h1, World.block_lt_of_cell? _ _ h2⟩
theorem ErrOk.part {w w' : World} {G : Nat} (h : ErrOk w) (hl : 4 < G ∧ 5 < G) (hb : Below G w w') : ErrOk w' := by
  obtain ⟨⟨t1, p1, h1⟩, t2, p2, h2⟩ := h
  exact ⟨⟨t1, p1, (hb.cell hl.1).trans h1⟩, t2, p2, (hb.cell hl.2).trans h2⟩
theorem ScanAt.part {w w' : World} {g G : Nat} {r : Bs} (h : ScanAt w g r) (hl : g < G) (hb : Below G w w') : ScanAt w' g r := (hb.block g hl).trans h
theorem grown_part {w w1 w2 : World} {g G : Nat} (h : w.grownBy w1 (some g)) (hb : Below G w1 w2) (hG : w.heap.size = G) : w.grownBy w2 (some g) :=
  ⟨hb.os.trans h.os, hb.tape.trans h.tape, hb.output.trans h.output, Nat.le_trans h.size hb.size, fun k hk hne => (hb.block k (by omega)).trans (h.block k hk hne)⟩
/-- what readRuns hands back -/
def RunsPost (g : Nat) (s : Bs) (w : World) (e : Ending) (w' : World) : Prop := w.grownBy w' (some g) ∧ ∃ o : Bs, e = .returned (.string (bs o)) ∧ o.length ≤ 200 ∧ ∀ l, rowOk l = true → shortR l = s → o = l
theorem repeat_lit {z : Int} {n : Nat} (h : z = (n : Int)) (b : UInt8) (hn : n ≤ 1000) (w : World) : Calls Tryd.prog 86 #[.string (bs [b]), .int .i64 z] w (Gives (strV (List.replicate n b)) w) := by
  subst h; exact repeat_any b n hn w
set_option maxRecDepth 100000 in
set_option maxHeartbeats 3200000 in
theorem readRuns_any (g : Nat) (s : Bs) (w : World) (h : ScanAt w g s) (hl : s.length ≤ 1000000000) (he : ErrOk w) : Calls Tryd.prog 60 #[upV g] w (RunsPost g s w) := by
  have hg := h.lt
  have bB := (Below.refl w.heap.size w).alloc (Nat.le_refl _) (.cells #[.pointer none, .slice none 0 0] 76)
  have i0 := isB_fresh w
  have h0 := h.below bB
  have e0 := he.below bB
  have hs0 : w.heap.size ≤ (w.alloc (.cells #[.pointer none, .slice none 0 0] 76)).heap.size := by simp
  have g0 := grown_of_below bB g
  obtain ⟨G, hG⟩ : ∃ G, w.heap.size = G := ⟨_, rfl⟩
  have hE := he.lt
  rw [hG] at i0 hs0 hg hE
  have HG := Lib.hid hG
  clear h he bB
  go_enter Tryd.func60, Tryd.ntmps60
  go_wp2_with fail
  go_loopg [] (s.length + 1) (fun gk wr => ∃ o r : Bs, ScanAt wr g r ∧ r.length < gk ∧ r.length ≤ s.length ∧ IsB G G o wr ∧ o.length ≤ 122 ∧ RunInv s o r ∧ ErrOk wr ∧ w.grownBy wr (some g) ∧ G ≤ wr.heap.size)
  case atStart => exact ⟨[], s, h0, by omega, Nat.le_refl _, i0, by simp, RunInv.start s, e0, g0, hs0⟩
  case round =>
    clear h0 i0 e0 g0 hs0
    obtain ⟨o, r, hsc, hrk, hrs, ib, hol, hinv, he, hgr, hGr⟩ := hrel
    have hinv := Lib.hid hinv
    have cb := blen_any G G o wr ib
    by_cases ho : o.length ≤ 61
    · have hd : decide ((o.length : Int) ≤ 61) = true := decT (by omega)
      go_wp2_with fail
      refine cb.mono ?_
      rintro e w1 ⟨rfl, rfl⟩
      clear cb
      go_wp2_with fail
      refine (upTwo_any g r w1 hsc (by omega)).mono ?_
      rintro e w2 ⟨g2, part, sign, rest, hc1, hc2, rfl, hsc2⟩
      have ib2 := ib.grown g2 hg
      have he2 := he.grown hsc g2
      have hgr2 := grown_trans hgr g2
      have hG2 := Nat.le_trans hGr g2.size
      have hpl : part.length ≤ r.length := by
        rcases hc1 with ⟨_, e, _⟩ | ⟨b, _, e⟩
        · rw [e]; exact Nat.le_refl _
        · rw [e, List.length_append]; omega
      have HC := Lib.hid (And.intro hc1 hc2)
      clear hc1 hc2 ib he hgr hGr g2 hsc
      go_wp2_with fail
      refine (runLength_any part (by omega) w2 he2).mono ?_
      rintro e w3 ⟨z, ok, rfl, b3, hz, hcn⟩
      have ib3 := ib2.below b3
      have he3 := he2.below b3
      have hgr3 := grown_trans hgr2 (grown_of_below b3 g)
      have hsc3 := hsc2.below b3
      have hG3 := Nat.le_trans hG2 b3.size
      have HN := Lib.hid hcn
      have hst : (bs sign).toList = sign := ByteArray.toList_mk sign
      clear ib2 he2 hgr2 hsc2 hG2 b3 hcn
      have HF := Lib.hid (show (ok = false ∨ sign = []) → ∀ l, rowOk l = true → shortR l = s → o = l from fun hx l h1 h2 => by
        by_cases hr : r = []
        · exact hinv.out.fin h1 h2 hr
        · obtain ⟨n, b, k1, k2, _⟩ := hinv.out.step h1 h2 hr (HC.out.2 (hinv.out.ascii h1 h2))
          rcases hx with hx | hx
          · have := (HN.out (by rw [k1])).1
            rw [hx] at this; cases this
          · rw [hx] at k2; cases k2)
      cases ok with
      | false =>
        clear hz
        go_wp2_with fail
        refine (bstr_any _ _ _ _ ib3 hG3).mono ?_
        rintro e w6 ⟨rfl, b6⟩
        go_wp2
        go_ret
        exact ⟨grown_part hgr3 b6 HG.out, o, rfl, by omega, HF.out (by simp)⟩
      | true =>
        by_cases h0 : sign = []
        · have hq : (sign == []) = true := by rw [h0]; rfl
          have HF := Lib.hid (HF.out (.inr h0))
          clear hz h0
          go_wp2_with fail
          refine (bstr_any _ _ _ _ ib3 hG3).mono ?_
          rintro e w6 ⟨rfl, b6⟩
          go_wp2
          go_ret
          exact ⟨grown_part hgr3 b6 HG.out, o, rfl, by omega, HF.out⟩
        · have hq : (sign == []) = false := by rw [beq_eq_false_iff_ne]; exact h0
          obtain ⟨b, hsb, hrb⟩ : ∃ b, sign = [b] ∧ r = part ++ b :: rest := by
            rcases HC.out.1 with ⟨e, _⟩ | hx
            · exact absurd e h0
            · exact hx
          obtain ⟨n, hn⟩ : ∃ n : Nat, z = (n : Int) := ⟨z.toNat, by have := hz rfl; omega⟩
          have hn1 : n ≤ 61 := by have := hz rfl; omega
          have hrl : rest.length < r.length := by rw [hrb, List.length_append, List.length_cons]; omega
          have HI := Lib.hid (show RunInv s (o ++ List.replicate n b) rest from fun l h1 h2 => by
            have hr : r ≠ [] := by rw [hrb]; simp
            obtain ⟨n', b', k1, k2, _, m', k3, k4⟩ := hinv.out.step h1 h2 hr (HC.out.2 (hinv.out.ascii h1 h2))
            have hz2 := (HN.out (by rw [k1])).2
            rw [k1] at hz2
            have e1 : n = n' := by simp only at hz2; omega
            have e2 : b = b' := by rw [hsb] at k2; exact (List.cons.inj k2).1
            subst e1 e2
            exact ⟨m', by rw [k3, List.append_assoc], k4⟩)
          subst hn
          subst hsb
          clear hz h0 hrb
          go_wp2_with fail
          refine (repeat_any b n (by omega) _).mono ?_
          rintro e w4 ⟨rfl, b4⟩
          have ib4 := ib3.below b4
          have he4 := he3.below b4
          have hgr4 := grown_trans hgr3 (grown_of_below b4 g)
          have hsc4 := hsc3.below b4
          have hG4 := Nat.le_trans hG3 b4.size
          clear ib3 he3 hgr3 hsc3 hG3 b4
          go_wp2_with fail
          refine (write_any _ _ o (List.replicate n b) _ ib4 (by omega) (by rw [List.length_replicate]; omega) hG4).mono ?_
          rintro e w5 ⟨rfl, ib5, b5, _⟩
          have he5 := he4.part hE b5
          have hgr5 := grown_part hgr4 b5 HG.out
          have hsc5 := hsc4.part hg b5
          have hG5 := Nat.le_trans hG4 b5.size
          go_wp2
          go_roundg (rest.length + 1)
          case measure => omega
          case rel => exact ⟨_, rest, hsc5, by omega, by omega, ib5, by rw [List.length_append, List.length_replicate]; omega, HI.out, he5, hgr5, hG5⟩
    · have hd : decide ((o.length : Int) ≤ 61) = false := decF (by omega)
      have HF := Lib.hid (show ∀ l, rowOk l = true → shortR l = s → o = l from fun l h1 h2 => by
        obtain ⟨m, k1, _⟩ := hinv.out l h1 h2
        have := (rowOk_is.1 h1).1.2
        rw [k1, List.length_append] at this
        omega)
      go_wp2_with fail
      refine cb.mono ?_
      rintro e w1 ⟨rfl, rfl⟩
      clear cb
      go_wp2_with fail
      refine (bstr_any _ _ _ _ ib hGr).mono ?_
      rintro e w6 ⟨rfl, b6⟩
      go_wp2
      go_ret
      exact ⟨grown_part hgr b6 HG.out, o, rfl, by omega, HF.out⟩
theorem below_grown1 {w w1 w2 : World} {g : Nat} (hb : Below w.heap.size w w1) (h : w1.grownBy w2 (some g)) (hg : w.heap.size ≤ g) : Below w.heap.size w w2 :=
  hb.grown h hb.size fun k hk => by cases hk; exact hg
theorem shortI_lit {l r : Bs} (hl : l.length ≤ 1000000000) (hr : shortR l = r) (w : World) : Calls Tryd.prog 24 #[.string (bs l)] w (Gives (strV r) w) := by
  subst hr; exact implShort_any l w hl
set_option maxRecDepth 100000 in
set_option maxHeartbeats 800000 in
theorem implLong_any (l : Bs) (w : World) (hl : l.length ≤ 1048576) (he : ErrOk w) : Calls Tryd.prog 26 #[.string (bs l)] w fun e w' => e = .returned (.tuple #[.string (bs (longR l)), .bool (longOk l)]) ∧ Below w.heap.size w w' := by
  have b0 := (Below.refl w.heap.size w).alloc (Nat.le_refl _) (.cells #[.string (bs l)] 61)
  have s0 := scan_new w l
  have e0 := he.below b0
  have hlt : (bs l).toList = l := ByteArray.toList_mk l
  by_cases h0 : l = []
  · have hq : (l == []) = true := by rw [h0]; rfl
    have HN := Lib.hid (long_no (s := l) (fun r h1 h2 => shortR_ne h1 (h2.trans h0)))
    clear h0
    go_enter Tryd.func26, Tryd.ntmps26
    go_wp2_with fail
    refine (readRuns_any _ l _ s0 (by omega) e0).mono ?_
    rintro e w1 ⟨g1, o, rfl, _, _⟩
    have b1 := below_grown1 b0 g1 (Nat.le_refl _)
    go_wp2
    go_ret2
    exact ⟨by rw [HN.out.1, HN.out.2]; rfl, b1⟩
  · have hq : (l == []) = false := by rw [beq_eq_false_iff_ne]; exact h0
    have h0 := Lib.hid h0
    go_enter Tryd.func26, Tryd.ntmps26
    go_wp2_with fail
    refine (readRuns_any _ l _ s0 (by omega) e0).mono ?_
    rintro e w1 ⟨g1, o, rfl, ho, hx⟩
    have b1 := below_grown1 b0 g1 (Nat.le_refl _)
    obtain ⟨X, hX⟩ : ∃ X, shortR o = X := ⟨_, rfl⟩
    have htx : (bs X).toList = X := ByteArray.toList_mk X
    have cs := Lib.hid (fun W => shortI_lit (l := o) (r := X) (by omega) hX W)
    have hx := Lib.hid hx
    clear b0 g1 s0 e0
    by_cases hXl : X = l
    · have hok : rowOk o = true := by
        cases h : rowOk o with
        | true => rfl
        | false => exact absurd (hXl.symm.trans (hX.symm.trans (shortR_no h))) h0.out
      have HN := Lib.hid (long_yes hok (hX.trans hXl))
      have hxl : (X == l) = true := by rw [hXl]; simp
      clear hX hXl hok
      go_wp2_with fail
      refine (cs.out _).mono ?_
      rintro e w2 ⟨rfl, b2⟩
      go_wp2
      go_ret2
      exact ⟨by rw [HN.out.1, HN.out.2]; rfl, below_step b1 b2⟩
    · have HN := Lib.hid (long_no (s := l) (fun r h1 h2 => hXl (hX.symm.trans (by rw [hx.out r h1 h2]; exact h2))))
      have hxl : (X == l) = false := by rw [beq_eq_false_iff_ne]; exact hXl
      clear hX hXl
      go_wp2_with fail
      refine (cs.out _).mono ?_
      rintro e w2 ⟨rfl, b2⟩
      go_wp2
      go_ret2
      exact ⟨by rw [HN.out.1, HN.out.2]; rfl, below_step b1 b2⟩
end Go.Proofs.YtjncnjcpcmpmcaaDoor
