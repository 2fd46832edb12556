/- Pieces in the program: piecesIn, ReachedOf, PiecesOf. No conditions but those typed. -/
import Derived.Test.YtbbeinhjkfjipaaVisI
import Derived.Test.YtbbeinhjkfjipaaMergeF
import Derived.Test.YtbbeinhjkfjipaaPieceS
namespace Go.Proofs.Ytbbeinhjkfjipaa
open Go.RowKit Go.Sort

/-- what is left: the list that came in, or one that the call made -/
def LeftIs (w wr : World) (l : Value) (L : List Sp) : Prop := Reads w w.heap.size l L ∨ Owns wr w.heap.size l L
theorem LeftIs.reads {w wr : World} {l : Value} {L : List Sp} (h : LeftIs w wr l L) (hb : Below w.heap.size w wr) : Reads wr wr.heap.size l L := by
  rcases h with h | h
  · exact h.kept hb
  · exact h.reads
theorem LeftIs.below {w wr w' : World} {l : Value} {L : List Sp} (h : LeftIs w wr l L) (hb : Below wr.heap.size wr w') : LeftIs w w' l L := h.imp id fun h => h.below hb
theorem LeftIs.app {w wr w' : World} {l v : Value} {L : List Sp} {base : Nat} {vs : List Value} (h : LeftIs w wr l L) (hv : VOwns 23 wr base v vs) (hg : wr.grownBy w' v.ownBlock) : LeftIs w w' l L := h.imp id fun h => h.grown hg (hv.apartO parts_apart h)
theorem piecesL_nil (e : Bool) : piecesL e [] = [] := rfl
set_option maxRecDepth 100000 in
set_option maxHeartbeats 1600000 in
theorem piecesIn_any (e : Bool) (ps : List Sp) (v s : Value) (w : World) (h : Reads w w.heap.size v ps) (hst : Reads w w.heap.size s (ringE e)) (hs : Sorted ps) (hl : ps.length ≤ 10000) (hn : ∀ a ∈ ps, NearS a) :
    Calls Try.prog 63 #[v, s] w (GivesParts (piecesL e ps) w) := by
  obtain ⟨A, c, rfl, hc, hm⟩ := h.slice
  obtain ⟨A2, c2, rfl, hc2, hm2⟩ := hst.slice
  unfold maxLen at hm hm2
  have hsort0 := hs
  have HN := Lib.hid hn
  clear hn
  go_enter Try.func63, Try.ntmps63
  go_wp2
  go_loopw [5, 6] (fun o l wr => ∃ (L : List Sp) (ls : List (List Sp)), LeftIs w wr l L ∧ Sorted L ∧ Sub L ps ∧ ls.length + L.length ≤ ps.length ∧ Parts wr w.heap.size o ls ∧ ls ++ piecesL e L = piecesL e ps ∧ Below w.heap.size w wr) (fun _ l _ => sliceLen l)
  case atStart => exact ⟨ps, [], .inl h, hs, fun _ hx => hx, by simp, Parts.nil _ _, rfl, Below.refl _ _⟩
  case round =>
    obtain ⟨L, ls, hleft, hsL, hsub, hlen, hown, heq, hbw⟩ := hrel
    obtain ⟨AL, cL, hv, hcL, hmL, hAL, hrL⟩ := (hleft.reads hbw).is
    subst hv
    unfold maxLen at hmL
    have HE := Lib.hid heq
    clear heq
    cases L with
    | nil =>
      have HF := Lib.hid (show ls = piecesL e ps by have := HE.out; rw [piecesL_nil, List.append_nil] at this; exact this)
      go_wp2
      go_ret
      exact ⟨_, rfl, by rw [← HF.out]; exact hown, hbw⟩
    | cons a L =>
      obtain ⟨x, y⟩ := a
      obtain ⟨b, off, rfl, hb, hcell⟩ := hrL (by simp at hcL; omega)
      have hr1 := (hleft.reads hbw).take (k := 1) (by simp)
      have e1 : ((x, y) :: L).take 1 = [(x, y)] := rfl
      rw [e1] at hr1
      have hlr := hleft.reads hbw
      have hstep := pieces_step (e := e) hsL
      have hlt := length_lessL_piece (e := e) (a := (x, y)) (l := L)
      have hnear : ∀ c ∈ (x, y) :: L, NearS c := fun c hc => HN.out c (hsub c hc)
      have hps := sorted_reachL (e := e) (m := [(x, y)]) hsL
      have hpl := length_reachL_le e ((x, y) :: L) [(x, y)]
      have hnext : Sorted (lessL ((x, y) :: L) (reachL e ((x, y) :: L) [(x, y)])) := sorted_lessL hsL _
      have hnsub : Sub (lessL ((x, y) :: L) (reachL e ((x, y) :: L) [(x, y)])) ps := fun c hc => hsub c (mem_lessL.1 hc).1
      have hfin : (ls ++ [reachL e ((x, y) :: L) [(x, y)]]) ++ piecesL e (lessL ((x, y) :: L) (reachL e ((x, y) :: L) [(x, y)])) = piecesL e ps := by
        rw [List.append_assoc]
        show ls ++ (reachL e ((x, y) :: L) [(x, y)] :: piecesL e (lessL ((x, y) :: L) (reachL e ((x, y) :: L) [(x, y)]))) = _
        rw [← hstep]; exact HE.out
      have hre := reachedIn_any e ((x, y) :: L) [(x, y)] _ _ _ wr hlr hr1 (hst.kept hbw) hsL (by omega) (by simp) hnear
      have HFIN := Lib.hid hfin
      have HNS := Lib.hid hnsub
      have HNX := Lib.hid hnext
      have HPS := Lib.hid hps
      obtain ⟨P, hP⟩ : ∃ P, reachL e ((x, y) :: L) [(x, y)] = P := ⟨_, rfl⟩
      rw [hP] at hlt hpl hre HFIN HNS HNX HPS
      rw [List.length_cons] at hcL hlen hlt hpl hlr ⊢
      clear hstep hnear hps hnext hnsub hfin hcell hrL hP e1 hr1
      go_wp2_with fail
      refine hre.mono ?_
      rintro e' w2 ⟨v2, rfl, o2, b2⟩
      obtain ⟨vs, hvo, hvi⟩ := hown
      have hvl := hvi.len
      have HOLD := Lib.hid (fun (k : Nat) u' (hu : vs[k]? = some u') g hg => (hvi.lt hu g hg).2)
      have hbs := hbw.size
      obtain ⟨A3, c3, rfl, hc3, hm3⟩ := o2.reads.slice
      have bal := box_below w2 #[.slice A3 P.length c3] 23
      have b22 := below_step b2 bal
      have hvo5 := (hvo.below b2).below bal
      have hvi5 := (hvi.below b2).below bal
      have o5 := o2.below bal
      have hl5 := (hleft.below b2).below bal
      have hb5 := below_step hbw b22
      have hs5 := hb5.size
      clear hre hleft hlr
      go_wp2_with (at_builtin; refine wpList_append_Part (g := w2.heap.size) (x := .slice A3 P.length c3) hvo5 (by simp [go_sem]) rfl (by omega) hs5 rfl (.tmp 17) (.tmp 19) rfl rfl rfl ?_)
      intro v6 w6 hv6 g6 hb6
      have hp6 := parts_push hvo5 hvi5 (o5.base hbs) (fun g hg => (o5.lt g hg).1) HOLD.out hv6 g6
      have o6 := o5.grown g6 (hvo5.apartO parts_apart o5)
      have hl6 := hl5.app hvo5 g6
      have hw6 := hb5.grown g6 hs5 (fun k hk => (hvo5.lt k hk).1)
      have hla := lessAll_any ((x, y) :: L) P _ _ w6 (hl6.reads hw6) o6.reads hsL HPS.out (by simp only [List.length_cons]; omega)
      rw [List.length_cons] at hla
      clear hvo5 hvi5 o5 hl5 hb5 hv6 g6 hb6
      go_wp2_with fail
      refine hla.mono ?_
      rintro e' w7 ⟨v7, rfl, o7, b7⟩
      obtain ⟨A7, c7, rfl, _, _⟩ := o7.reads.slice
      go_wp2
      go_roundw
      case rel => exact ⟨_, _, .inr (o7.base hw6.size), HNX.out, HNS.out, by rw [List.length_append, List.length_singleton]; omega, hp6.below b7, HFIN.out, below_step hw6 b7⟩
      case measure => simp [sliceLen]; omega
end Go.Proofs.Ytbbeinhjkfjipaa
