/- The model's JournalText and ReadJournal. No conditions but those typed. -/
import Derived.Test.YtpdnakiilhohdaaDoorDeedR
namespace Go.Proofs.YtpdnakiilhohdaaDoor
open Go.RowKit Go.Sort

theorem jourS_step {l : List (Sp × Int)} {j : Nat} {a : Sp × Int} (h : l[j]? = some a) : jourL (l.take (j + 1)) = jourL (l.take j) ++ deedT a ++ [10] := by
  rw [List.take_add_one, h, Option.toList_some, jourL_snoc, List.append_assoc]
theorem addS_big {P : Program} (l m : Bs) (W : World) (h : l.length + m.length ≤ 1000000000) : (Op.stringOp .add (bs l) (bs m)).run P W = .ok (.string (bs (l ++ m))) W := by
  rw [run_string_add_sum W _ _ (by rw [bs_size, bs_size]; omega), bs_append]
def OkUptoS (l : List (Sp × Int)) (j : Nat) : Prop := ∀ (i : Nat) (a : Sp × Int), i < j → l[i]? = some a → deedOk a = true
theorem OkUptoS.next {l : List (Sp × Int)} {j : Nat} {a : Sp × Int} (h : OkUptoS l j) (ha : l[j]? = some a) (hb : deedOk a = true) : OkUptoS l (j + 1) := fun i b hi hb' => by
  by_cases e : i = j
  · subst e; rw [ha] at hb'; cases hb'; exact hb
  · exact h i b (by omega) hb'
theorem OkUptoS.all {l : List (Sp × Int)} (h : OkUptoS l l.length) : jourOk l = true := jourOk_is.2 fun a ha => by
  obtain ⟨i, hi⟩ := List.mem_iff_getElem?.1 ha
  exact h i a (List.getElem?_eq_some_iff.1 hi).1 hi
set_option maxRecDepth 100000 in
set_option maxHeartbeats 1600000 in
theorem specJour_any (l : List (Sp × Int)) (v : Value) (w : World) (h : CReads w w.heap.size v l) (hl : l.length ≤ 2000000) : Calls Tryd.prog 19 #[v] w (Gives (strV (jourT l)) w) := by
  obtain ⟨A, c, rfl, hcl, hcm, hcA, hcell⟩ := h.is
  unfold maxLen at hcm
  have HJ := Lib.hid (fun k => jourL_len (l.take k))
  go_enter Tryd.func19, Tryd.ntmps19
  go_wp2_with fail
  go_loopw [3, 4] (fun o i wr => ∃ j : Nat, j ≤ l.length ∧ i = .int .i64 j ∧ OkUptoS l j ∧ o = .string (bs (jourL (l.take j))) ∧ Below w.heap.size w wr) (fun _ i _ => l.length - (intOf i).toNat)
  case atStart => exact ⟨0, Nat.zero_le _, rfl, fun i a hi => by omega, rfl, Below.refl _ _⟩
  case round =>
    obtain ⟨j, hj, rfl, hI, rfl, hbw⟩ := hrel
    have HI := Lib.hid hI
    clear hI
    by_cases hlt : j < l.length
    · obtain ⟨⟨⟨k, x⟩, y⟩, hxy⟩ : ∃ a, l[j]? = some a := ⟨_, List.getElem?_eq_getElem hlt⟩
      obtain ⟨b, off, rfl, hb, hat⟩ := hcell (by omega)
      obtain ⟨a0, a1, a2⟩ := hat j k x y hxy
      have d0 := (hbw.cell (p := ⟨b, off + j * 3, none⟩) hb).trans a0
      have d1 := (hbw.cell (p := ⟨b, off + j * 3 + 1, none⟩) hb).trans a1
      have d2 := (hbw.cell (p := ⟨b, off + j * 3 + 2, none⟩) hb).trans a2
      have hm3 : (0 : Int) ≤ (j : Int) := Int.natCast_nonneg _
      have hm4 : (j : Int) < (l.length : Int) := by omega
      obtain ⟨T, hT⟩ : ∃ T, deedT ((k, x), y) = T := ⟨_, rfl⟩
      have HT := Lib.hid hT
      have hTl : T.length ≤ 14 := by rw [← hT]; exact deedT_len _
      have hTt : (bs T).toList = T := ByteArray.toList_mk T
      have hjl := HJ.out j
      rw [List.length_take] at hjl
      have hS := jourS_step hxy
      rw [hT] at hS
      have hTs : T ≠ [] → deedOk ((k, x), y) = true := fun h => deedT_ok (by rw [hT]; exact h)
      have hTn : T = [] → jourOk l = false := fun h => jourOk_bad hxy (by
        rcases e : deedOk ((k, x), y) with _ | _
        · rfl
        · exact absurd (hT.trans h) (deedT_ne e))
      have HN := Lib.hid hTs
      have HM := Lib.hid hTn
      have HXY := Lib.hid hxy
      obtain ⟨O, hO⟩ : ∃ O, jourL (l.take j) = O := ⟨_, rfl⟩
      rw [hO] at hS hjl ⊢
      have e1 := fun W => addS_big (P := Tryd.prog) O T W (by omega)
      have e2 : ∀ W : World, (Op.stringOp .add (bs (O ++ T)) { data := #[10] }).run Tryd.prog W = .ok (.string (bs (O ++ T ++ [10]))) W := fun W => addS_big (O ++ T) [10] W (by rw [List.length_append]; simp; omega)
      rw [← hS] at e2
      have HS := Lib.hid hS
      clear hT hTs hTn hxy hS hO
      rcases hq : (T == []) with _ | _
      · have HQ := Lib.hid (beq_eq_false_iff_ne.1 hq)
        go_wp2_with fail
        refine (deedS_is HT.out).mono ?_
        rintro e w2 ⟨rfl, b2⟩
        have bb2 := below_step hbw b2
        clear d0 d1 d2
        have d0 := (bb2.cell (p := ⟨b, off + j * 3, none⟩) hb).trans a0
        have d1 := (bb2.cell (p := ⟨b, off + j * 3 + 1, none⟩) hb).trans a1
        have d2 := (bb2.cell (p := ⟨b, off + j * 3 + 2, none⟩) hb).trans a2
        go_wp2_with fail
        refine (deedS_is HT.out).mono ?_
        rintro e w3 ⟨rfl, b3⟩
        have bb3 := below_step bb2 b3
        go_wp2
        go_roundw
        case rel => exact ⟨j + 1, by omega, by go_num, HI.out.next HXY.out (HN.out HQ.out), rfl, bb3⟩
        case measure => simp [intOf]; omega
      · have HQ := Lib.hid (beq_iff_eq.1 hq)
        have HA := Lib.hid (jourT_no (HM.out HQ.out))
        go_wp2_with fail
        refine (deedS_is HT.out).mono ?_
        rintro e w2 ⟨rfl, b2⟩
        go_wp2
        go_ret
        exact ⟨by rw [HA.out]; rfl, below_step hbw b2⟩
    · obtain rfl : j = l.length := by omega
      have HA := Lib.hid (jourT_yes HI.out.all)
      rw [List.take_length]
      go_wp2
      go_ret
      exact ⟨by rw [HA.out]; rfl, hbw⟩
def GivesJS (l : List (Sp × Int)) (n : Nat) (w : World) (e : Ending) (w' : World) : Prop := ∃ v', e = .returned (.tuple #[v', .int .i64 (n : Int)]) ∧ COwns w' w.heap.size v' l ∧ Below w.heap.size w w'
theorem readS_is {s : Bs} {a : Sp × Int} {b : Bool} {w : World} (h1 : readDR s = a) (h2 : readDOk s = b) (hl : s.length ≤ 100000000) : Calls Tryd.prog 16 #[.string (bs s)] w (GivesDS a b w) := by
  subst h1; subst h2; exact specReadD_any s hl w
/-- a line of a text, up to its newline -/
theorem line_at {s : Bs} {f k : Nat} (hf : f ≤ k) (hk : s[k]? = some 10) : s.drop f = (s.take k).drop f ++ 10 :: s.drop (k + 1) := by
  have hkl := (List.getElem?_eq_some_iff.1 hk).1
  have e : s = s.take k ++ 10 :: s.drop (k + 1) := by
    conv => lhs; rw [← List.take_append_drop k s]
    congr 1
    rw [List.drop_eq_getElem_cons hkl, (List.getElem?_eq_some_iff.1 hk).2]
  conv => lhs; rw [e]
  rw [List.drop_append_of_le_length (by rw [List.length_take]; omega)]
theorem no_line_next {s : Bs} {f k : Nat} {b : UInt8} (h : (10 : UInt8) ∉ (s.take k).drop f) (hf : f ≤ k) (hb : s[k]? = some b) (hn : b ≠ 10) : (10 : UInt8) ∉ (s.take (k + 1)).drop f := by
  have hkl := (List.getElem?_eq_some_iff.1 hb).1
  rw [List.take_add_one, hb, Option.toList_some, List.drop_append_of_le_length (by rw [List.length_take]; omega), List.mem_append]
  rintro (h1 | h1)
  · exact h h1
  · exact hn (List.mem_singleton.1 h1).symm
set_option maxRecDepth 100000 in
set_option maxHeartbeats 1600000 in
theorem specReadJ_any (s : Bs) (hl : s.length ≤ 10000000) (w : World) : Calls Tryd.prog 27 #[.string (bs s)] w (GivesJS (jread [] s).1 (jread [] s).2 w) := by
  have hsz := bs_size s
  have o0 := COwns.empty w w.heap.size (Nat.le_refl _)
  have b0 := box_below w #[] 24
  go_enter Tryd.func27, Tryd.ntmps27
  go_wp2_with fail
  go_loopw [4, 5, 6] (fun v fr i wr => ∃ (l : List (Sp × Int)) (f k : Nat), k ≤ s.length ∧ f ≤ k ∧ l.length ≤ f ∧ i = .int .i64 k ∧ fr = .int .i64 f ∧ (10 : UInt8) ∉ (s.take k).drop f ∧ COwns wr w.heap.size v l ∧ (jread [] s).1 = l ++ (jread [] (s.drop f)).1 ∧ (jread [] s).2 = f + (jread [] (s.drop f)).2 ∧ Below w.heap.size w wr) (fun _ _ i _ => s.length - (intOf i).toNat)
  case atStart => exact ⟨[], 0, 0, Nat.zero_le _, Nat.le_refl _, Nat.le_refl _, rfl, rfl, by simp, o0, by simp, by simp, b0⟩
  case round =>
    obtain ⟨l, f, k, hk, hfk, hlf, rfl, rfl, hno, hown, hJ1, hJ2, hbw⟩ := hrel
    have H1 := Lib.hid hJ1
    have H2 := Lib.hid hJ2
    have HNo := Lib.hid hno
    clear hJ1 hJ2 hno o0 b0
    by_cases hlt : k < s.length
    · obtain ⟨b, hb⟩ : ∃ b, s[k]? = some b := ⟨_, List.getElem?_eq_getElem hlt⟩
      have hix := bs_index (P := Tryd.prog) Tryd.underlying9 hb
      have hm3 : (0 : Int) ≤ (k : Int) := Int.natCast_nonneg _
      have hm4 : (k : Int) < (s.length : Int) := by omega
      by_cases h10 : b = 10
      · subst h10
        have HL := Lib.hid (line_at hfk hb)
        obtain ⟨P, hP⟩ : ∃ P, (s.take k).drop f = P := ⟨_, rfl⟩
        have hPl : P.length ≤ s.length := by rw [← hP, List.length_drop, List.length_take]; omega
        have hPk : P.length = k - f := by rw [← hP, List.length_drop, List.length_take]; omega
        have hex : (bs s).extract f k = bs P := by rw [bs_extract, hP]
        rw [hP] at HL HNo
        have q1 : (((10 : UInt8).toNat : Int) == 10) = true := by decide
        have k0 : (0 : Int) ≤ (f : Int) := Int.natCast_nonneg _
        have k1 : (f : Int) ≤ (k : Int) := by omega
        have k2 : (k : Int) ≤ (s.length : Int) := by omega
        have HPk := Lib.hid hPk
        obtain ⟨D, hD⟩ : ∃ D, readDR P = D := ⟨_, rfl⟩
        obtain ⟨ok, hok⟩ : ∃ ok, readDOk P = ok := ⟨_, rfl⟩
        have HD := Lib.hid hD
        have HO := Lib.hid hok
        clear hP hPk hD hok hb
        obtain ⟨⟨Dk, Dx⟩, Dy⟩ := D
        go_wp2_with fail
        refine (readS_is HD.out HO.out (by omega)).mono ?_
        rintro e w2 ⟨rfl, b2⟩
        have bb2 := below_step hbw b2
        obtain ⟨X, hX⟩ : ∃ X, X = w2.alloc (.cells #[.int .i64 Dk, .int .i64 Dx, .int .i64 Dy] 24) := ⟨_, rfl⟩
        have bX : Below w2.heap.size w2 X := by rw [hX]; exact box_below _ _ _
        have q3 : X.heap[w2.heap.size]? = some (.cells #[.int .i64 Dk, .int .i64 Dx, .int .i64 Dy] 24 (0, 0)) := by rw [hX]; exact heap_alloc_new _ _
        have bb3 := below_step bb2 bX
        have own3 := (hown.below b2).below bX
        obtain ⟨c0, c1, c2⟩ := cells3_s q3
        clear hown b2 bX
        cases ok with
        | false =>
          have hs := jread_skip [] (10 :: s.drop (k + 1)) HNo.out
          rw [List.nil_append, jread_bad HO.out, ← HL.out] at hs
          have HS := Lib.hid hs
          clear hs
          go_wp2_with (first | (rw [← hX]; clear hX) | fail)
          go_ret2
          refine ⟨u4, ?_, ?_, bb3⟩
          · rw [H2.out, HS.out]; rfl
          · rw [H1.out, HS.out, List.append_nil]; exact own3
        | true =>
          have hs := jread_skip [] (10 :: s.drop (k + 1)) HNo.out
          rw [List.nil_append, jread_line HO.out, ← HL.out, HD.out] at hs
          have HS := Lib.hid hs
          clear hs
          have own4 := own3.below (box_below X #[.int .i64 Dk, .int .i64 Dx, .int .i64 Dy] 24)
          have bbY := below_step bb3 (box_below X #[.int .i64 Dk, .int .i64 Dx, .int .i64 Dy] 24)
          go_wp2_with (first | (rw [← hX]; clear hX) | (at_builtin; refine wpList_append_cents (m := [((Dk, Dx), Dy)]) own4 (CReads.one (g := X.heap.size) (by simp [go_sem]) (by simp [go_sem]) (by simp [go_sem])) (by simp only [List.length_cons, List.length_nil]; omega) bbY.size rfl (.tmp 32) (.tmp 34) rfl rfl rfl ?_) | fail)
          intro v7 w7 o7 g7 hv7
          have b7 := own4.below_app bbY bbY.size g7
          clear own3 own4 g7 hv7
          go_wp2
          go_roundw
          case rel =>
            refine ⟨l ++ [((Dk, Dx), Dy)], k + 1, k + 1, hlt, Nat.le_refl _, by simp; omega, by go_num, by go_num, ?_, o7, ?_, ?_, b7⟩
            · rw [List.drop_of_length_le (by rw [List.length_take]; omega)]; exact List.not_mem_nil
            · rw [H1.out, HS.out, List.append_assoc]; rfl
            · rw [H2.out, HS.out]; simp only; have := HPk.out; omega
          case measure => simp [intOf]; omega
      · have q1 : ((b.toNat : Int) == 10) = false := by
          rw [beq_eq_false_iff_ne]
          intro e
          exact h10 (UInt8.toNat_inj.1 (by have : (10 : UInt8).toNat = 10 := rfl; omega))
        have HL := Lib.hid (no_line_next HNo.out hfk hb h10)
        clear hb
        go_wp2
        go_roundw
        case rel => exact ⟨l, f, k + 1, hlt, by omega, hlf, by go_num, rfl, HL.out, hown, H1.out, H2.out, hbw⟩
        case measure => simp [intOf]; omega
    · obtain rfl : k = s.length := by omega
      have hn := HNo.out
      rw [List.take_length] at hn
      have HS := Lib.hid (jread_none [] hn)
      clear hn
      go_wp2
      go_ret2
      refine ⟨u4, ?_, ?_, hbw⟩
      · rw [H2.out, HS.out]; rfl
      · rw [H1.out, HS.out, List.append_nil]; exact hown
end Go.Proofs.YtpdnakiilhohdaaDoor
