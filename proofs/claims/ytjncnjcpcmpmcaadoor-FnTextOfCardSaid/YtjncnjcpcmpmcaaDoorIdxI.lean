/- Go's strings.IndexAny here at the two signs of rows, in whatever text: what it hands back is -1 or an index of the text, and in a text of ASCII, or a longer one, the first sign's. No conditions but those typed. -/
import Derived.Test.YtjncnjcpcmpmcaaDoorLibT
import Derived.Test.YtjncnjcpcmpmcaaDoorCutS
import Derived.Laws.RangeAny
import Derived.Laws.Runes
import Derived.Deep.LoopGhost
import Derived.BigQuiet
import Derived.WalkMore
import Derived.Lib.OthersKept
namespace Go.Proofs.YtjncnjcpcmpmcaaDoor
open Go.RowKit Go.Sort Go.Shelf

theorem lay137 : Go.Proofs.Lays.n137 Tryd.prog lay153_ren := { lay153 with }
set_option maxRecDepth 100000 in
theorem idxByte_nil (z : Int) (w : World) : Calls Tryd.prog 111 #[.string (bs []), .int .u8 z] w (Gives (.int .i64 (-1)) w) := by
  refine (Any.strings_IndexByte lay137 (bs []) z w).mono ?_
  rintro e w' ⟨rfl, rfl⟩
  exact ⟨rfl, Below.refl _ _⟩
theorem idxByte_emp (z : Int) (w : World) : Calls Tryd.prog 111 #[.string ByteArray.empty, .int .u8 z] w (Gives (.int .i64 (-1)) w) := idxByte_nil z w
theorem decT {p : Prop} [Decidable p] (h : p) : decide p = true := decide_eq_true h
theorem decF {p : Prop} [Decidable p] (h : ¬ p) : decide p = false := decide_eq_false h
set_option maxRecDepth 100000 in
set_option maxHeartbeats 1600000 in
theorem idxRune_high (c : Int) (h1 : 128 ≤ c) (h2 : c ≤ 2147483647) (w : World) : Calls Tryd.prog 92 #[.string (bs [35, 46]), .int .i32 c] w (Gives (.int .i64 (-1)) w) := by
  have d0 : decide ((0 : Int) ≤ c) = true := decT (by omega)
  have d1 : decide (c < 128) = false := decF (by omega)
  have hsz : (bs [35, 46]).size = 2 := rfl
  by_cases he : c = 65533
  · subst he
    go_enter Tryd.func92, Tryd.ntmps92
    have n0 : ∀ ty, (Instr.next (.pointer (some ⟨w.heap.size, 0, none⟩)) true ty).run Tryd.prog (w.iter (bs [35, 46]) 0) = .ok (.tuple #[.bool true, .int .i64 0, .int .i32 35]) (w.iter (bs [35, 46]) 1) := fun ty => run_next_ascii (P := Tryd.prog) w (bs [35, 46]) 0 ty (by decide) (by decide)
    have n1 : ∀ ty, (Instr.next (.pointer (some ⟨w.heap.size, 0, none⟩)) true ty).run Tryd.prog (w.iter (bs [35, 46]) 1) = .ok (.tuple #[.bool true, .int .i64 1, .int .i32 46]) (w.iter (bs [35, 46]) 2) := fun ty => run_next_ascii (P := Tryd.prog) w (bs [35, 46]) 1 ty (by decide) (by decide)
    have n2 := fun ty => run_next_end (P := Tryd.prog) w (bs [35, 46]) 2 ty (by decide)
    go_wp2
    go_rounds 4
    go_ret
    exact ⟨rfl, (Below.refl _ _).alloc (Nat.le_refl _) _⟩
  · have q0 : (c == 65533) = false := beq_eq_false_iff_ne.2 he
    by_cases hv : (c < 55296) ∨ (57343 < c ∧ c ≤ 1114111)
    · obtain ⟨s2, s4, sl⟩ := encode_facts c (by rw [validRune_eq]; exact decT (by omega)) h1
      have dv : (decide (c < 55296) = true) ∨ (decide (c < 55296) = false ∧ decide (57343 < c) = true ∧ decide (c ≤ 1114111) = true) := by
        rcases hv with h | ⟨h, k⟩
        · exact .inl (decT h)
        · exact .inr ⟨decF (by omega), decT h, decT k⟩
      clear hv he h1 h2
      have hcv : ∀ W, (convert 21 9 (.int .i32 c)).run Tryd.prog W = .ok (.string (Utf8.encode c)) W := fun W => run_convert_int_string W _ _ _ c (by rw [Tryd.underlying21]; rfl) Tryd.underlying9
      generalize Utf8.encode c = E at *
      by_cases hn : E.size = 2
      · obtain ⟨z, hz⟩ : ∃ z : UInt8, E[1]'(by omega) = z := ⟨_, rfl⟩
        have hzl : 128 ≤ z.toNat := by
          have := sl (by omega)
          simp only [hn] at this
          rw [← hz]; exact this
        have hix1 : ∀ W, (Instr.index 9 (.string (bs [35, 46])) (.int .i64 1)).run Tryd.prog W = .ok (.int .u8 46) W := bs_index (P := Tryd.prog) (T := 9) Tryd.underlying9 (l := [35, 46]) (k := 1) (b := 46) rfl
        have hix2 : ∀ W, (Instr.index 9 (.string E) (.int .i64 1)).run Tryd.prog W = .ok (.int .u8 (z.toNat : Int)) W := fun W => by
          obtain ⟨l, rfl⟩ := bs_all E
          refine bs_index (P := Tryd.prog) Tryd.underlying9 (l := l) (k := 1) (b := z) ?_ W
          rw [← hz]
          rw [bs_size] at hn
          rw [List.getElem?_eq_getElem (by omega)]
          rfl
        have hex : (bs [35, 46]).extract 2 2 = bs [] := by rw [bs_extract]; rfl
        obtain ⟨y, hy⟩ : ∃ y : Int, (z.toNat : Int) = y := ⟨_, rfl⟩
        have hne : ((46 : Int) != y) = true := by
          rw [bne_iff_ne]; omega
        rw [hy] at hix2
        clear hy hzl hz sl s2 s4
        rcases dv with dv | ⟨dv, dv2, dv3⟩
        all_goals
          go_enter Tryd.func92, Tryd.ntmps92
          go_wp2
          go_step3
          go_wp2
          refine wp_loop_rounds 1 ?_
          rw [rounds_succ]
          go_wp2
          go_step3
          go_wp2
          refine wp_region_quiet_below (by kernel_rfl) (by kernel_rfl) ?_
          repeat (go_big_quiet_step (first | fail))
          refine wpQuiet_nil ?_
          intro wN hw'
          obtain ⟨⟨dq, osq⟩, hw''⟩ := hw'
          have hN : Below w.heap.size w wN := by rw [hw'']; exact below_regrown _ _ _
          clear hw'' dq osq
          go_wp2
          refine wp_region_quiet_below (by kernel_rfl) (by kernel_rfl) ?_
          repeat (go_big_quiet_step (first | (with_reducible exact gives_regrown (fun w1 _ => idxByte_emp y w1) _ _)))
          refine wpQuiet_nil ?_
          intro wM hw'
          obtain ⟨⟨dq, osq⟩, hw''⟩ := hw'
          have hM : Below wN.heap.size wN wM := by rw [hw'']; exact below_regrown _ _ _
          clear hw'' dq osq
          go_wp2
          go_ret
          exact ⟨rfl, below_step hN hM⟩
      · have hlt : decide ((E.size : Int) - 1 < 2) = false := decF (by omega)
        rcases dv with dv | ⟨dv, dv2, dv3⟩
        all_goals
          go_enter Tryd.func92, Tryd.ntmps92
          go_wp2
          go_step3
          go_wp2
          refine wp_loop_rounds 1 ?_
          rw [rounds_succ]
          go_wp2
          go_ret
          exact ⟨rfl, Below.refl _ _⟩
    · have d2 : decide (c < 55296) = false := decF (by omega)
      have hc : c ≤ 57343 ∨ 1114111 < c := by omega
      rcases hc with hc | hc
      · have d3 : decide (57343 < c) = false := decF (by omega)
        go_enter Tryd.func92, Tryd.ntmps92
        go_wp2
        all_goals
          go_ret
          exact ⟨rfl, Below.refl _ _⟩
      · have d3 : decide (57343 < c) = true := decT (by omega)
        have d4 : decide (c ≤ 1114111) = false := decF (by omega)
        go_enter Tryd.func92, Tryd.ntmps92
        go_wp2
        all_goals
          go_ret
          exact ⟨rfl, Below.refl _ _⟩
/-- what IndexAny may hand back: -1, or an index of the text -/
def IdxPost (l : Bs) (w : World) (e : Ending) (w' : World) : Prop := Below w.heap.size w w' ∧ ∃ i : Int, e = .returned (.int .i64 i) ∧ -1 ≤ i ∧ i < (l.length : Int) ∧ ((∀ b ∈ l, b.toNat < 128) → i = Lib.indexAny l [35, 46])
theorem idx_range (l cs : Bs) : -1 ≤ Lib.indexAny l cs ∧ Lib.indexAny l cs < (l.length : Int) := by
  rcases indexAny_cases cs l with ⟨h, _⟩ | ⟨p, b, t, h1, h2, _, _⟩
  · rw [h]; omega
  · rw [h2, h1, List.length_append, List.length_cons]; omega
theorem lay226 : Go.Proofs.Lays.n226 Tryd.prog lay153_ren := { lay153 with }
theorem lay152 : Go.Proofs.Lays.n152 Tryd.prog lay153_ren := { lay153 with }
theorem runeAscii_any (r : Int) (h0 : 0 ≤ r) (h1 : r < 128) (w : World) : Calls Tryd.prog 92 #[.string (bs [35, 46]), .int .i32 r] w fun e w' => ∃ z : Int, e = .returned (.int .i64 z) ∧ w' = w := by
  refine (Any.strings_IndexRune_ascii lay152 (bs [35, 46]) r w h0 h1).mono ?_
  rintro e w' ⟨rfl, rfl⟩
  exact ⟨_, rfl, rfl⟩
theorem rune_any (r : Int) (h0 : 0 ≤ r) (h1 : r ≤ 2147483647) (w : World) : Calls Tryd.prog 92 #[.string (bs [35, 46]), .int .i32 r] w fun e w' => ∃ z : Int, e = .returned (.int .i64 z) ∧ Below w.heap.size w w' := by
  by_cases h : r < 128
  · refine (runeAscii_any r h0 h w).mono ?_
    rintro e w' ⟨z, rfl, rfl⟩
    exact ⟨z, rfl, Below.refl _ _⟩
  · refine (idxRune_high r (by omega) h1 w).mono ?_
    rintro e w' ⟨rfl, hb⟩
    exact ⟨_, rfl, hb⟩
theorem decode_pos (s : ByteArray) (p : Nat) (h : p < s.size) : 1 ≤ (Utf8.decode s p).2 := by
  by_cases ha : (s[p]'h).toNat < 128
  · rw [decode_ascii s p h ha]; exact Nat.le_refl 1
  · exact (decode_high s p h (by omega)).2
set_option maxRecDepth 100000 in
set_option maxHeartbeats 1600000 in
theorem idxShort_any (l : Bs) (h8 : l.length ≤ 8) (w : World) : Calls Tryd.prog 73 #[.string (bs l), .string (bs [35, 46])] w fun e w' => Below w.heap.size w w' ∧ ∃ i : Int, e = .returned (.int .i64 i) ∧ -1 ≤ i ∧ i < (l.length : Int) := by
  have hsl := bs_size l
  have hs2 : (bs [35, 46]).size = 2 := rfl
  have htl : (bs [35, 46]).toList = [35, 46] := ByteArray.toList_mk _
  have hd8 : decide ((8 : Int) < (l.length : Int)) = false := decF (by omega)
  have cs := Lib.hid (fun (n : Int) W => Any.strings_shouldUseASCIISet lay226 n W)
  go_enter Tryd.func73, Tryd.ntmps73
  go_wp2_with fail
  refine (cs.out _ _).mono ?_
  rintro e w1 ⟨rfl, rfl⟩
  go_wp2_with fail
  go_loopg [9, 10] l.length (fun g _ _ wx => ∃ p : Nat, wx.heap[w1.heap.size]? = some (.stringIter (bs l) p) ∧ l.length ≤ p + g ∧ Below w1.heap.size w1 wx)
  case atStart => exact ⟨0, World.iter_heap w1 (bs l) 0, by omega, (Below.refl _ _).alloc (Nat.le_refl _) _⟩
  case round =>
    obtain ⟨p, hit, hpg, hb⟩ := hrel
    by_cases hp : p < l.length
    · obtain ⟨g, rfl⟩ : ∃ g, gk = g + 1 := ⟨gk - 1, by omega⟩
      have hps : p < (bs l).size := by omega
      have hnx := fun ty => Lib.run_next_any_at (P := Tryd.prog) wr w1.heap.size (bs l) p ty hit hps
      have hd1 := decode_pos (bs l) p hps
      have hd2 := decode_le (bs l) p
      have hit2 := Lib.iterAt_heap wr w1.heap.size (bs l) p (p + (Utf8.decode (bs l) p).2) hit
      have hb2 := Lib.below_iterAt hb (Nat.le_refl _) (bs l) (p + (Utf8.decode (bs l) p).2)
      obtain ⟨c, hc⟩ : ∃ c : Nat, (Utf8.decode (bs l) p).1 = c := ⟨_, rfl⟩
      obtain ⟨d, hd⟩ : ∃ d : Nat, (Utf8.decode (bs l) p).2 = d := ⟨_, rfl⟩
      rw [hc, hd] at hnx
      rw [hc] at hd2
      rw [hd] at hd1 hit2 hb2
      have hc2 : (c : Int) ≤ 2147483647 := by omega
      have hk1 : w1.heap.size < (wr.iterAt w1.heap.size (bs l) (p + d)).heap.size := (Array.getElem?_eq_some_iff.1 hit2).1
      clear hc hd hit hb hps hd2
      go_wp2_with fail
      refine (rune_any (c : Int) (by omega) hc2 _).mono ?_
      rintro e w5 ⟨z, rfl, b5⟩
      have hit5 := (b5.block w1.heap.size hk1).trans hit2
      have hb5 := hb2.trans (b5.mono (Nat.le_of_lt hk1))
      by_cases hz : 0 ≤ z
      · have hdz : decide ((0 : Int) ≤ z) = true := decT hz
        go_wp2
        go_ret
        exact ⟨hb5, _, rfl, by omega, by omega⟩
      · have hdz : decide ((0 : Int) ≤ z) = false := decF hz
        go_wp2
        go_roundg g
        case measure => omega
        case rel => exact ⟨p + d, hit5, by omega, hb5⟩
    · have hnx := fun ty => Lib.run_next_end_at (P := Tryd.prog) wr w1.heap.size (bs l) p ty hit (by omega)
      go_wp2
      go_ret
      exact ⟨hb, _, rfl, by omega, by omega⟩
theorem idx_any (l : Bs) (hl : l.length ≤ 1000000000) (w : World) : Calls Tryd.prog 73 #[.string (bs l), .string (bs [35, 46])] w (IdxPost l w) := by
  have hr := idx_range l [35, 46]
  by_cases ha : ∀ b ∈ l, b.toNat < 128
  · refine (idxAscii_any l hl ha w).mono ?_
    rintro e w' ⟨rfl, hb⟩
    exact ⟨hb, _, rfl, hr.1, hr.2, fun _ => rfl⟩
  · by_cases h8 : 8 < l.length
    · refine (idxLong_any l hl h8 w).mono ?_
      rintro e w' ⟨rfl, hb⟩
      exact ⟨hb, _, rfl, hr.1, hr.2, fun _ => rfl⟩
    · refine (idxShort_any l (by omega) w).mono ?_
      rintro e w' ⟨hb, i, rfl, h1, h2⟩
      exact ⟨hb, i, rfl, h1, h2, fun h => absurd h ha⟩
end Go.Proofs.YtjncnjcpcmpmcaaDoor
