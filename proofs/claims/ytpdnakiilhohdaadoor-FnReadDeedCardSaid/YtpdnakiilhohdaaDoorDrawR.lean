/- The draw of a list of deeds. No conditions but those typed. -/
import Derived.Test.YtpdnakiilhohdaaDoorDrawD
import Derived.Test.YtpdnakiilhohdaaDoorDeedL
namespace Go.Proofs.YtpdnakiilhohdaaDoor
open Go.RowKit Go.Sort

structure DnInv (w wr : World) (g n c : Nat) (A : Option Addr) (v : Value) (l : List Cn) (p : Nat) : Prop where
  own : COwns wr w.heap.size v l
  rd : Rd wr g A n c p
  grown : w.grownBy wr (some g)
theorem DnInv.pick {w wr w' : World} {g n c p q : Nat} {A : Option Addr} {v : Value} {l : List Cn} (I : DnInv w wr g n c A v l p) (hg : g < w.heap.size) (hr : Rd w' g A n c q) (h : wr.grownBy w' (some g)) : DnInv w w' g n c A v l q :=
  ⟨I.own.grown h (by cases hv : v.ownBlock with | none => exact .inl rfl | some k => exact .inr (fun e => by have := (I.own.lt k hv).1; injection e with e; omega)), hr, grown_trans I.grown h⟩
set_option maxRecDepth 100000 in
set_option maxHeartbeats 3200000 in
theorem deeds_any (g n c p : Nat) (A : Option Addr) (ps : List Sp) (v : Value) (w : World) (hr : Rd w g A n c p) (hs : ∀ w', w.grownBy w' (some g) → Reads w' w'.heap.size v ps) (hl : ps.length ≤ 100000) (hp : p ≤ 80000) :
    Calls Tryd.prog 60 #[.pointer (some ⟨g, 0, none⟩), v] w fun e w' => ∃ u l q, e = .returned u ∧ DnInv w w' g n c A u l q ∧ l.length ≤ 5 ∧ q ≤ p + 60 := by
  have hg := hr.lt
  have I0 : DnInv w (w.alloc (.cells #[] 24)) g n c A (.slice (some ⟨w.heap.size, 0, none⟩) 0 0) [] p :=
    ⟨COwns.empty w w.heap.size (Nat.le_refl _), hr.al _, World.grownBy_alloc _ _ _⟩
  go_enter Tryd.func60, Tryd.ntmps60
  go_wp2_with fail
  refine (pick_any g n c p A 6 _ I0.rd (by omega) (by omega) (by omega)).mono ?_
  rintro e w2 ⟨z2, rfl, z2a, z2b, r2, g2⟩
  have I := I0.pick hg r2 g2
  clear I0 r2 g2 hr
  obtain ⟨m, rfl⟩ := Int.eq_ofNat_of_zero_le z2a
  go_wp2
  go_loopw [5, 6] (fun o k wr => ∃ (j : Nat) (l : List Cn) (q : Nat), k = .int .i64 (j : Int) ∧ j ≤ 5 ∧ DnInv w wr g n c A o l q ∧ l.length + j ≤ 5 ∧ q + 8 * j ≤ p + 60) (fun _ k _ => (intOf k).toNat)
  case atStart => exact ⟨m, [], _, rfl, by omega, I, by simp; omega, by omega⟩
  case round =>
    clear I
    obtain ⟨j, l, q, rfl, hj, I, hl5, hq⟩ := hrel
    by_cases hj0 : 0 < j
    · have hd : decide (0 < j) = true := decide_eq_true hj0
      go_wp2_with fail
      refine (deed_any g n c q A ps v wr I.rd (fun w' h => hs w' (grown_trans I.grown h)) hl (by omega)).mono ?_
      rintro e w6 ⟨kd, x, y, q6, rfl, r6, hq6, g6⟩
      have I := I.pick hg r6 g6
      clear r6 g6
      have ba : Below w6.heap.size w6 (w6.alloc (.cells #[.int .i64 kd, .int .i64 x, .int .i64 y] 24)) := (Below.refl _ _).alloc (Nat.le_refl _) _
      have o2 := I.own.below ba
      have r2 := I.rd.below ba
      have gg := grown_below I.grown ba
      have hsz := I.grown.size
      go_wp2_with (at_builtin; refine wpList_append_cents (m := [((kd, x), y)]) o2 (CReads.one (g := w6.heap.size) (by simp [go_sem]) (by simp [go_sem]) (by simp [go_sem])) (by simp only [List.length_cons, List.length_nil]; omega) (by simp only [World.size_alloc]; omega) rfl (.tmp 14) (.tmp 18) rfl rfl rfl ?_)
      intro v7 w7 o7 g7 hv7
      have J : DnInv w w7 g n c A v7 (l ++ [((kd, x), y)]) q6 :=
        ⟨o7, r2.app g7 (fun k hk => by have := (o2.lt k hk).1; omega), grown_app gg g7 (fun k hk => (o2.lt k hk).1)⟩
      go_wp2
      go_roundw
      case rel => exact ⟨j - 1, _, _, by go_num, by omega, J, by simp; omega, by omega⟩
      case measure => simp [intOf]; omega
    · have hd : decide (0 < j) = false := decide_eq_false hj0
      obtain ⟨A4, c4, rfl, _, _⟩ := I.own.reads.slice
      go_wp2
      go_ret
      exact ⟨_, l, _, rfl, I, by omega, by omega⟩
/-- 'make([]Deed, n)' in a region that draws its order -/
theorem step_make_deeds {w : World} {ops : Array Oper} {o : Oper} {a : Act} {K : Act → World → Prop} {Q : Exit → Act → World → Prop} {E : Prop}
    (n : Nat) (hn : n ≤ 5000000000000) (hgd : o.guard = none) (l c : Operand) (hop : o.op = Op.makeSlice 32 l c) (hl : a.eval l = .int .i64 (n : Int)) (hc : a.eval c = .int .i64 (n : Int))
    (hK : ∀ w', COwns w' w.heap.size (.slice (some ⟨w.heap.size, 0, none⟩) n n) (List.replicate n ((0, 0), 0)) → w.grownBy w' none → K (a.put o.dst (.slice (some ⟨w.heap.size, 0, none⟩) n n)) w') :
    if Region.wanted o (yielded ops a.tmps) = true then Oper.wp Tryd.prog o a w K Q else E := by
  have hw : Region.wanted o (yielded ops a.tmps) = true := by simp [Region.wanted, hgd]
  rw [if_pos hw]
  obtain ⟨i0, hi, hz0, hz1, hz2⟩ := info_parts centInfo
  obtain ⟨w', hrun, r1, r2⟩ := run_make_full (P := Tryd.prog) w w.heap.size 32 24 i0 _ 3 Tryd.underlying32 hi hz0 hz1 .i64 .i64 n (by rw [hz2]; omega) (by simp only [maxLen]; omega) (Nat.le_refl _)
  unfold Oper.wp
  simp [execOp, hop, hl, hc, hrun, Result.andThen]
  refine hK w' ?_ r2
  unfold COwns
  rw [List.length_replicate, ← flatC_replicate]
  exact r1
end Go.Proofs.YtpdnakiilhohdaaDoor
