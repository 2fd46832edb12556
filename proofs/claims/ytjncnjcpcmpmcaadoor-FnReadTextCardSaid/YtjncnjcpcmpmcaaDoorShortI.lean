/- The program's ShortRow. No conditions but those typed. -/
import Derived.Test.YtjncnjcpcmpmcaaDoorLibT
import Derived.Test.YtjncnjcpcmpmcaaDoorBuild
import Derived.Test.YtjncnjcpcmpmcaaDoorShortS
namespace Go.Proofs.YtjncnjcpcmpmcaaDoor
open Go.RowKit Go.Sort

def lenOfV : Value → Nat
  | .string s => s.size
  | _ => 0
theorem lenOfV_bs (l : Bs) : lenOfV (.string (bs l)) = l.length := bs_size l
theorem shortR_signs {l : Bs} (h1 : l.length ≤ 61) (h2 : Lib.trimS l [35, 46] = []) : shortR l = encF 0 l := by
  cases l with
  | nil => rfl
  | cons b l =>
    refine shortR_yes ?_
    rw [rowOk_trim, decide_eq_true h1, decide_eq_true h2]
    simp
theorem shortR_long {l : Bs} (h : 61 < l.length) : shortR l = [] := by
  refine shortR_no ?_
  rw [rowOk_trim, decide_eq_false (show ¬ l.length ≤ 61 by omega)]
  simp
theorem shortR_other {l : Bs} (h : Lib.trimS l [35, 46] ≠ []) : shortR l = [] := by
  refine shortR_no ?_
  rw [rowOk_trim, decide_eq_false h]
  simp
theorem itoaSmall_lit {z : Int} {n : Nat} (h : z = (n : Int)) (hn : n < 100) (w : World) : Calls Tryd.prog 37 #[.int .i64 z] w (Gives (strV (natB n)) w) := by
  subst h; exact itoaSmall_any n hn w
/-- one run is told -/
theorem run_told {m : Bs} {b : UInt8} {r : Bs} (h : m = b :: r) : ∃ (N : Nat) (t : Bs), Lib.trimLeftB m b = t ∧ t.length < m.length ∧ (m.length : Int) - (t.length : Int) = (N : Int) ∧ 1 ≤ N ∧ encF 0 m = emit N b ++ encF 0 t ∧ ∀ c ∈ t, c ∈ m := by
  subst h
  have h1 := trimLeft_le r b
  have h2 := encF_run r 0 b
  refine ⟨0 + 1 + (r.length - (Lib.trimLeftB r b).length), Lib.trimLeftB r b, trimLeft_cons r b, by rw [List.length_cons]; omega, by rw [List.length_cons]; omega, by omega, h2, fun c hc => ?_⟩
  exact List.mem_cons_of_mem _ ((List.dropWhile_sublist _).mem hc)
set_option maxRecDepth 100000 in
set_option maxHeartbeats 1600000 in
theorem implShort_any (l : Bs) (w : World) (hl : l.length ≤ 1000000000) : Calls Tryd.prog 24 #[.string (bs l)] w (Gives (strV (shortR l)) w) := by
  have hsz := bs_size l
  by_cases h61 : 61 < l.length
  · have hd : decide ((61 : Int) < (l.length : Int)) = true := decide_eq_true (by omega)
    rw [shortR_long h61]
    go_enter Tryd.func24, Tryd.ntmps24
    go_wp2
    all_goals
      go_ret
      exact ⟨rfl, Below.refl _ _⟩
  have hd : decide ((61 : Int) < (l.length : Int)) = false := decide_eq_false (by omega)
  obtain ⟨t, ht⟩ : ∃ t, Lib.trimS l [35, 46] = t := ⟨_, rfl⟩
  have ct := Lib.hid (fun W => trim_any l W hl)
  rw [ht] at ct
  have htt : (bs t).toList = t := ByteArray.toList_mk t
  by_cases h0 : t = []
  · have hq : (t == []) = true := by rw [h0]; rfl
    have HS := Lib.hid (shortR_signs (l := l) (by omega) (ht.trans h0))
    have HA := Lib.hid (List.all_eq_true.1 ((trim_nil l).1 (ht.trans h0)))
    clear ht h0
    go_enter Tryd.func24, Tryd.ntmps24
    go_wp2_with fail
    refine (ct.out _).mono ?_
    rintro e w1 ⟨rfl, b1⟩
    have bB := b1.alloc b1.size (.cells #[.pointer none, .slice none 0 0] 76)
    have i0 := isB_fresh w1
    have hG0 := b1.size
    go_wp2
    obtain ⟨G, hG⟩ : ∃ G, w1.heap.size = G := ⟨_, rfl⟩
    rw [hG] at i0 hG0 ⊢
    have hGs : G ≤ (w1.alloc (.cells #[.pointer none, .slice none 0 0] 76)).heap.size := by simp only [World.size_alloc]; omega
    clear hG
    go_loopw [4] (fun lf wr => ∃ o m : Bs, lf = .string (bs m) ∧ IsB G G o wr ∧ o ++ encF 0 m = encF 0 l ∧ (∀ b ∈ m, isSign b = true) ∧ m.length ≤ 61 ∧ o.length + 3 * m.length ≤ 183 ∧ Below w.heap.size w wr ∧ G ≤ wr.heap.size) (fun lf _ => lenOfV lf)
    case atStart => exact ⟨[], l, rfl, i0, rfl, HA.out, by omega, by simp; omega, bB, hGs⟩
    case round =>
      clear i0 bB hGs b1
      obtain ⟨o, m, rfl, ib, henc, hsg, hm61, hol, hb, hGr⟩ := hrel
      have hmt : (bs m).toList = m := ByteArray.toList_mk m
      have hms := bs_size m
      have HE := Lib.hid henc
      have HB := Lib.hid hsg
      clear henc hsg
      by_cases hm0 : m = []
      · have hqm : (m == []) = true := by rw [hm0]; rfl
        have e : o = shortR l := by
          have := HE.out
          rw [hm0, encF, List.append_nil] at this
          rw [HS.out, this]
        clear hm0
        go_wp2_with fail
        refine (bstr_any _ _ _ _ ib hGr).mono ?_
        rintro e2 w6 ⟨rfl, b6⟩
        go_wp2
        go_ret
        exact ⟨rfl, hb.trans (b6.mono hG0)⟩
      · have hqm : (m == []) = false := by rw [beq_eq_false_iff_ne]; exact hm0
        obtain ⟨b, r, hbr⟩ := List.exists_cons_of_ne_nil hm0
        have hbs := HB.out b (by rw [hbr]; simp)
        have hb128 : b.toNat < 128 := by rcases of_decide_eq_true hbs with rfl | rfl <;> decide
        have hex : (bs m).extract 0 1 = bs [b] := by rw [bs_extract, hbr]; rfl
        have hm1 : 1 ≤ m.length := by rw [hbr]; simp
        have hm1i : (1 : Int) ≤ (m.length : Int) := by omega
        obtain ⟨N, t', htr, htl, hN, hN1, hen, htm⟩ := run_told hbr
        have cl := Lib.hid (fun W => trimLeft_any m b hb128 W)
        rw [htr] at cl
        have hts := bs_size t'
        have HN := Lib.hid hN
        have HM := Lib.hid htm
        have HX := Lib.hid hen
        have hN61 : N ≤ 61 := by omega
        clear hm0 hbr hbs htr htm hen
        go_wp2_with fail
        refine (cl.out _).mono ?_
        rintro e w2 ⟨rfl, b2⟩
        have ib2 := ib.below b2
        have hb2 := below_step hb b2
        have hG2 := Nat.le_trans hGr b2.size
        clear ib hb hGr b2
        have hol2 : o.length ≤ 183 := by omega
        by_cases h1N : 1 < N
        · have hdN : decide ((1 : Int) < (N : Int)) = true := decide_eq_true (by omega)
          have HE2 := Lib.hid (show (o ++ natB N ++ [b]) ++ encF 0 t' = encF 0 l by rw [← HE.out, HX.out, emit_parts, if_pos h1N]; simp)
          have hnl := natB_length 1 N (by omega)
          go_wp2_with fail
          refine (itoaSmall_lit (n := N) (by first | rfl | omega) (by omega) _).mono ?_
          rintro e w3 ⟨rfl, b3⟩
          have ib3 := ib2.below b3
          have hb3 := below_step hb2 b3
          have hG3 := Nat.le_trans hG2 b3.size
          clear ib2 hb2 hG2 b3
          go_wp2_with fail
          refine (write_any _ _ o (natB N) _ ib3 (by omega) (by omega) hG3).mono ?_
          rintro e w4 ⟨rfl, ib4, b4, _⟩
          have hb4 := hb3.trans (b4.mono hG0)
          have hG4 := Nat.le_trans hG3 b4.size
          clear ib3 hb3 hG3 b4
          go_wp2_with fail
          refine (write_any _ _ (o ++ natB N) [b] _ ib4 (by rw [List.length_append]; omega) (by simp) hG4).mono ?_
          rintro e w5 ⟨rfl, ib5, b5, _⟩
          have hb5 := hb4.trans (b5.mono hG0)
          have hG5 := Nat.le_trans hG4 b5.size
          go_wp2
          go_roundw
          case rel => exact ⟨_, t', rfl, ib5, HE2.out, fun c hc => HB.out c (HM.out c hc), by omega, by simp only [List.length_append, List.length_cons, List.length_nil]; omega, hb5, hG5⟩
          case measure => rw [lenOfV_bs, lenOfV_bs]; exact htl
        · have hdN : decide ((1 : Int) < (N : Int)) = false := decide_eq_false (by omega)
          have HE2 := Lib.hid (show (o ++ [b]) ++ encF 0 t' = encF 0 l by rw [← HE.out, HX.out, emit_parts, if_neg h1N]; simp)
          go_wp2_with fail
          refine (write_any _ _ o [b] _ ib2 (by omega) (by simp) hG2).mono ?_
          rintro e w5 ⟨rfl, ib5, b5, _⟩
          have hb5 := hb2.trans (b5.mono hG0)
          have hG5 := Nat.le_trans hG2 b5.size
          go_wp2
          go_roundw
          case rel => exact ⟨_, t', rfl, ib5, HE2.out, fun c hc => HB.out c (HM.out c hc), by omega, by simp only [List.length_append, List.length_cons, List.length_nil]; omega, hb5, hG5⟩
          case measure => rw [lenOfV_bs, lenOfV_bs]; exact htl
  · have hq : (t == []) = false := by rw [beq_eq_false_iff_ne]; exact h0
    rw [shortR_other (by rw [ht]; exact h0)]
    clear ht h0
    go_enter Tryd.func24, Tryd.ntmps24
    go_wp2_with fail
    refine (ct.out _).mono ?_
    rintro e w1 ⟨rfl, b1⟩
    go_wp2
    all_goals
      go_ret
      exact ⟨rfl, b1⟩
end Go.Proofs.YtjncnjcpcmpmcaaDoor
