/- What the draws of chapter 11 hand back. No conditions but those typed. -/
import Derived.Test.YtjncnjcpcmpmcaaDraws1
import Derived.Test.YtjncnjcpcmpmcaaTextO
import Derived.Test.YtjncnjcpcmpmcaaLongS
namespace Go.Proofs.Ytjncnjcpcmpmcaa
open Go.RowKit Go.Sort

theorem drawRowsOf_any (A : Option Addr) (n c : Nat) (w : World) (hb : Bytes w w.heap.size A n) (hn : n ≤ c) (hc : c ≤ 9223372036854775807) :
    Calls Try.prog 5 #[.slice A n c] w fun e w' => ∃ v ps, e = .returned v ∧ Drawn w w' v ps 10 := by
  go_enter Try.func5, Try.ntmps5
  go_wp2_with fail
  refine (open_any A n c _ hb hn hc).mono ?_
  rintro e w1 ⟨n', rfl, r1, b1⟩
  go_wp2_with fail
  refine (spots_any _ n' c 0 A 9 9 _ r1 (by omega) (by omega) (by omega) (by omega) (by omega)).mono ?_
  rintro e w2 ⟨v, ps, q, rfl, I, hl, _⟩
  go_wp2
  go_ret
  exact ⟨v, ps, rfl, I.own.base b1.size, I.small, hl, Below.of_grown b1 I.grown (Nat.le_refl _)⟩
theorem lit_cell {w : World} {cs : Array Value} {T : TypeId} {k : Nat} {v : Value} (h : cs[k]? = some v) : (w.alloc (.cells cs T)).cell? ⟨w.heap.size, k, none⟩ = some v := by
  have e : (w.alloc (.cells cs T)).heap[w.heap.size]? = some (.cells cs T) := heap_alloc_new w _
  rw [cell_of_row _ _ _ _ _ _ e]; exact h
theorem grown_alloc2 {w wr : World} {g : Nat} (h : w.grownBy wr (some g)) (o : Obj) : w.grownBy (wr.alloc o) (some g) := grown_below h ((Below.refl _ _).alloc (Nat.le_refl _) o)
theorem Rd.alloc2 {w : World} {g n c p : Nat} {A : Option Addr} (h : Rd w g A n c p) (o : Obj) : Rd (w.alloc o) g A n c p := h.below ((Below.refl _ _).alloc (Nat.le_refl _) o)
/-- a text is handed back, in a world that keeps what was -/
def GivesText (m : Nat) (w : World) (e : Ending) (w' : World) : Prop := ∃ l : Bs, e = .returned (.string (bs l)) ∧ l.length ≤ m ∧ Below w.heap.size w w'
structure TInv (w wr : World) (g n c : Nat) (A : Option Addr) (q : Nat) : Prop where
  rd : Rd wr g A n c q
  below : Below w.heap.size w wr
  le : w.heap.size ≤ g
section
variable {w wr w' : World} {g n c q : Nat} {A : Option Addr}
theorem TInv.pick {p : Nat} (J : TInv w wr g n c A q) (hr : Rd w' g A n c p) (h : wr.grownBy w' (some g)) : TInv w w' g n c A p := ⟨hr, Below.of_grown J.below h J.le, J.le⟩
theorem TInv.alloc (J : TInv w wr g n c A q) (o : Obj) : TInv w (wr.alloc o) g n c A q := ⟨J.rd.alloc2 o, J.below.alloc J.below.size o, J.le⟩
theorem TInv.drew (J : TInv w wr g n c A q) : TInv w wr.drew g n c A q := ⟨J.rd.below (Below.refl _ _).drew, J.below.drew, J.le⟩
theorem TInv.step (J : TInv w wr g n c A q) (h : Below wr.heap.size wr w') : TInv w w' g n c A q := ⟨J.rd.below h, below_step J.below h, J.le⟩
end
theorem short_le {l : Bs} (h : l.length ≤ 100) : (shortR l).length ≤ 100 := by
  rcases hk : rowOk l with _ | _
  · rw [shortR_no hk]; simp
  · exact Nat.le_trans (shortR_length hk) h
theorem lits_at {W w5 : World} {g m5 : Nat} {T : TypeId} (ls : List Bs) (hr : W.heap.size ≠ g) (h : (W.alloc (.cells (ls.map strV).toArray T)).drew.grownBy w5 (some g)) (hm : m5 < ls.length) (hx : ∀ l ∈ ls, l.length ≤ 10) :
    ∃ x : Bs, x.length ≤ 10 ∧ w5.cell? ⟨W.heap.size, m5, none⟩ = some (.string (bs x)) := by
  have c0 := heap_alloc_new W (.cells (ls.map strV).toArray T)
  have cn := (h.block W.heap.size (show W.heap.size < (W.alloc (.cells (ls.map strV).toArray T)).heap.size by simp) (fun e => by injection e with e; exact hr e)).trans c0
  refine ⟨ls[m5], hx _ (List.getElem_mem hm), ?_⟩
  rw [cell_of_row w5 _ m5 _ _ _ cn]
  simp [hm]
end Go.Proofs.Ytjncnjcpcmpmcaa
