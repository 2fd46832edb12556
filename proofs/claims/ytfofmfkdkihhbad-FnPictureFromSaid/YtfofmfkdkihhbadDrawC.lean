/- What the draw of PictureFrom hands back: a short list of centres, in new memory, and a way. No conditions but those typed. -/
import Derived.Test.YtfofmfkdkihhbadDraws1
import Derived.Test.YtfofmfkdkihhbadCents
namespace Go.Proofs.Ytfofmfkdkihhbad
open Go.RowKit Go.Sort

structure CnInv (w wr : World) (g n c : Nat) (A : Option Addr) (v : Value) (l : List Cn) (p : Nat) : Prop where
  own : COwns wr w.heap.size v l
  rd : Rd wr g A n c p
  grown : w.grownBy wr (some g)
theorem CnInv.pick {w wr w' : World} {g n c p q : Nat} {A : Option Addr} {v : Value} {l : List Cn} (I : CnInv w wr g n c A v l p) (hg : g < w.heap.size) (hr : Rd w' g A n c q) (h : wr.grownBy w' (some g)) : CnInv w w' g n c A v l q :=
  ⟨I.own.grown h (by cases hv : v.ownBlock with | none => exact .inl rfl | some k => exact .inr (fun e => by have := (I.own.lt k hv).1; injection e with e; omega)), hr, grown_trans I.grown h⟩
def GivesCW (w : World) (e : Ending) (w' : World) : Prop := ∃ (v : Value) (l : List Cn) (way : Int), e = .returned (.tuple #[v, .int .i64 way]) ∧ COwns w' w.heap.size v l ∧ l.length ≤ 10 ∧ (0 ≤ way ∧ way ≤ 10) ∧ Below w.heap.size w w'
set_option maxHeartbeats 1600000 in
theorem drawPictureFrom_any (A : Option Addr) (n c : Nat) (w : World) (hb : Bytes w w.heap.size A n) (hn : n ≤ c) (hc : c ≤ 9223372036854775807) :
    Calls Try.prog 35 #[.slice A n c] w (GivesCW w) := by
  go_enter Try.func35, Try.ntmps35
  go_wp2_with fail
  refine (open_any A n c _ hb hn hc).mono ?_
  rintro e w1 ⟨n', rfl, r1, b1⟩
  have hg1 := r1.lt
  obtain ⟨g, hgE⟩ : ∃ g, g = w.heap.size := ⟨_, rfl⟩
  have I0 : CnInv w1 (w1.alloc (.cells #[] 45)) w.heap.size n' c A (.slice (some ⟨w1.heap.size, 0, none⟩) 0 0) [] 0 :=
    ⟨COwns.empty w1 w1.heap.size (Nat.le_refl _), r1.below ((Below.refl _ _).alloc (Nat.le_refl _) _), World.grownBy_alloc _ _ _⟩
  go_wp2_with fail
  refine (pick_any _ n' c 0 A 4 _ I0.rd (by omega) (by omega) (by omega)).mono ?_
  rintro e w2 ⟨z2, rfl, z2a, z2b, r2, g2⟩
  have I := I0.pick hg1 r2 g2
  clear I0 r2 g2
  obtain ⟨m, rfl⟩ := Int.eq_ofNat_of_zero_le z2a
  go_wp2_with fail
  go_loopw [5, 6] (fun o k wr => ∃ (j : Nat) (l : List Cn) (q : Nat), k = .int .i64 j ∧ j ≤ 4 ∧ CnInv w1 wr w.heap.size n' c A o l q ∧ l.length + j ≤ 4 ∧ q + 4 * j ≤ 40) (fun _ k _ => (intOf k).toNat)
  case atStart => exact ⟨m, [], _, rfl, by omega, I, by simp; omega, by omega⟩
  case round =>
    clear I
    obtain ⟨j, l, q, rfl, hj, I, hl, hq⟩ := hrel
    by_cases hj0 : 0 < j
    · have hd : decide (0 < j) = true := decide_eq_true hj0
      go_wp2_with fail
      refine (pick_any _ n' c q A 5 _ I.rd (by omega) (by omega) (by omega)).mono ?_
      rintro e w3 ⟨z3, rfl, z3a, z3b, r3, g3⟩
      have I := I.pick hg1 r3 g3
      go_wp2_with fail
      refine (pick_any _ n' c (q + 1) A 5 _ I.rd (by omega) (by omega) (by omega)).mono ?_
      rintro e w4 ⟨z4, rfl, z4a, z4b, r4, g4⟩
      have I := I.pick hg1 r4 g4
      go_wp2_with fail
      refine (pick_any _ n' c (q + 1 + 1) A 3 _ I.rd (by omega) (by omega) (by omega)).mono ?_
      rintro e w5 ⟨z5, rfl, z5a, z5b, r5, g5⟩
      have I := I.pick hg1 r5 g5
      go_wp2_with fail
      refine (pick_any _ n' c (q + 1 + 1 + 1) A 30 _ I.rd (by omega) (by omega) (by omega)).mono ?_
      rintro e w6 ⟨z6, rfl, z6a, z6b, r6, g6⟩
      have I := I.pick hg1 r6 g6
      clear r3 r4 r5 r6 g3 g4 g5 g6
      have ba : Below w6.heap.size w6 (w6.alloc (.cells #[.int .i64 z3, .int .i64 z4, .int .i64 (z5 + z6 / 29 * 3)] 45)) := (Below.refl _ _).alloc (Nat.le_refl _) _
      have o2 := I.own.below ba
      have r2 := I.rd.below ba
      have gg := grown_below I.grown ba
      have hs := I.grown.size
      go_wp2_with (at_builtin; refine wpList_append_cents (m := [((z3, z4), z5 + z6 / 29 * 3)]) o2 (CReads.one (g := w6.heap.size) (by simp [go_sem]) (by simp [go_sem]) (by simp [go_sem])) (by simp only [List.length_cons, List.length_nil]; omega) (by simp only [World.size_alloc]; omega) rfl (.tmp 16) (.tmp 30) rfl rfl rfl ?_)
      intro v7 w7 o7 g7 hv7
      have J : CnInv w1 w7 w.heap.size n' c A v7 (l ++ [((z3, z4), z5 + z6 / 29 * 3)]) (q + 1 + 1 + 1 + 1) :=
        ⟨o7, r2.app g7 (fun k hk => by have := (o2.lt k hk).1; omega), grown_app gg g7 (fun k hk => (o2.lt k hk).1)⟩
      go_wp2
      go_roundw
      case rel => exact ⟨j - 1, _, _, by go_num, by omega, J, by simp; omega, by omega⟩
      case measure => simp [intOf]; omega
    · have hd : decide (0 < j) = false := decide_eq_false hj0
      go_wp2_with fail
      refine (pick_any _ n' c q A 2 _ I.rd (by omega) (by omega) (by omega)).mono ?_
      rintro e w3 ⟨z3, rfl, z3a, z3b, r3, g3⟩
      have I := I.pick hg1 r3 g3
      go_wp2_with fail
      refine (pick_any _ n' c (q + 1) A 20 _ I.rd (by omega) (by omega) (by omega)).mono ?_
      rintro e w4 ⟨z4, rfl, z4a, z4b, r4, g4⟩
      have I := I.pick hg1 r4 g4
      obtain ⟨A4, c4, rfl, _, _⟩ := I.own.reads.slice
      clear r3 r4 g3 g4
      go_wp2
      go_ret2
      exact ⟨_, l, _, rfl, I.own.base b1.size, by omega, by omega, Below.of_grown b1 I.grown (Nat.le_refl _)⟩
end Go.Proofs.Ytfofmfkdkihhbad
