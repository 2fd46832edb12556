/- The program's scanner: all ahead of a sign, and the sign. No conditions but those typed. -/
import Derived.Test.YtjncnjcpcmpmcaaDoorIdxI
import Derived.Test.YtjncnjcpcmpmcaaDoorSpots
import Derived.Test.YtjncnjcpcmpmcaaDoorShortS
import Derived.BigRegion
namespace Go.Proofs.YtjncnjcpcmpmcaaDoor
open Go.RowKit Go.Sort

/-- a scanner in block g that has this text left -/
def ScanAt (w : World) (g : Nat) (r : Bs) : Prop := w.heap[g]? = some (.cells #[.string (bs r)] 61 (0, 0))
theorem ScanAt.lt {w : World} {g : Nat} {r : Bs} (h : ScanAt w g r) : g < w.heap.size := (Array.getElem?_eq_some_iff.1 h).1
theorem ScanAt.cell {w : World} {g : Nat} {r : Bs} (h : ScanAt w g r) : w.cell? ⟨g, 0, none⟩ = some (.string (bs r)) := by unfold World.cell?; rw [h]; rfl
theorem ScanAt.free {w : World} {g : Nat} {r : Bs} (h : ScanAt w g r) : w.frozen? ⟨g, 0, none⟩ = false := by unfold World.frozen?; rw [h]; rfl
theorem ScanAt.below {w w' : World} {g : Nat} {r : Bs} (h : ScanAt w g r) (hb : Below w.heap.size w w') : ScanAt w' g r := (hb.block g h.lt).trans h
theorem ScanAt.set {w : World} {g : Nat} {r : Bs} (h : ScanAt w g r) (r' : Bs) : ScanAt (w.setCell ⟨g, 0, none⟩ (.string (bs r'))) g r' := by
  have h' : w.heap[g]? = some (.cells #[.string (bs r)] 61 (0, 0)) := h
  show (w.setCell ⟨g, 0, none⟩ (.string (bs r'))).heap[g]? = _
  simp [World.setCell, Array.getElem?_modify, h']
theorem scan_new (w : World) (r : Bs) : ScanAt (w.alloc (.cells #[.string (bs r)] 61)) w.heap.size r := heap_alloc_new w _
theorem grown_of_below {w w' : World} (h : Below w.heap.size w w') (g : Nat) : w.grownBy w' (some g) := ⟨h.os, h.tape, h.output, h.size, fun k hk _ => h.block k hk⟩
/-- how a text is parted at an index -/
def Parted (r : Bs) (i : Int) (part sign rest : Bs) : Prop := (i = -1 ∧ part = r ∧ sign = [] ∧ rest = []) ∨ ∃ (k : Nat) (b : UInt8), i = (k : Int) ∧ r[k]? = some b ∧ part = r.take k ∧ sign = [b] ∧ rest = r.drop (k + 1)
def UpPost (Q : Int → Prop) (g : Nat) (r : Bs) (w : World) (e : Ending) (w' : World) : Prop := w.grownBy w' (some g) ∧ ∃ i part sign rest, Q i ∧ Parted r i part sign rest ∧ e = .returned (.tuple #[.string (bs part), .string (bs sign)]) ∧ ScanAt w' g rest
set_option maxRecDepth 100000 in
set_option maxHeartbeats 3200000 in
theorem upTo_any (cs : ByteArray) (Q : Int → Prop) (g : Nat) (r : Bs) (w : World) (h : ScanAt w g r) (hl : r.length ≤ 1000000000) (hQ : ∀ i, Q i → -1 ≤ i ∧ i < (r.length : Int))
    (hidx : Calls Tryd.prog 73 #[.string (bs r), .string cs] w fun e w' => Below w.heap.size w w' ∧ ∃ i : Int, e = .returned (.int .i64 i) ∧ Q i) :
    Calls Tryd.prog 46 #[.pointer (some ⟨g, 0, none⟩), .string cs] w (UpPost Q g r w) := by
  have c0 := h.cell
  have hsr := bs_size r
  go_enter Tryd.func46, Tryd.ntmps46
  go_wp2_with fail
  refine hidx.mono ?_
  rintro e w1 ⟨b1, i, rfl, hq⟩
  obtain ⟨q1, q2⟩ := hQ i hq
  have HQ := Lib.hid hq
  have h1 := h.below b1
  have hg1 := grown_of_below b1 g
  clear hidx hq c0 h b1 hQ
  have c1 := h1.cell
  have f1 := h1.free
  by_cases hi : i < 0
  · have hd : decide (i < 0) = true := decT hi
    obtain rfl : i = -1 := by omega
    go_wp2
    go_ret2
    exact ⟨grown_trans hg1 (grown_set _ _ _ _), -1, r, [], [], HQ.out, .inl ⟨rfl, rfl, rfl, rfl⟩, rfl, h1.set []⟩
  · have hd : decide (i < 0) = false := decF hi
    obtain ⟨k, rfl⟩ := Int.eq_ofNat_of_zero_le (by omega : 0 ≤ i)
    have hk : k < r.length := by omega
    obtain ⟨b, hbk⟩ : ∃ b, r[k]? = some b := ⟨_, List.getElem?_eq_getElem hk⟩
    have k0 : (0 : Int) ≤ (k : Int) := Int.natCast_nonneg _
    have k1 : (k : Int) ≤ (r.length : Int) := by omega
    have k2 : (k : Int) + 1 ≤ (r.length : Int) := by omega
    have k3 : (0 : Int) ≤ (k : Int) + 1 := by omega
    have k4 : ((k : Int) + 1).toNat = k + 1 := by omega
    have k5 : (k : Int) ≤ (k : Int) + 1 := by omega
    have hwr : IntKind.i64.wrap ((k : Int) + 1) = (k : Int) + 1 := IntWalk.i64_in _ (by omega)
    have hex1 : (bs r).extract 0 k = bs (r.take k) := by rw [bs_extract]; simp
    have hex2 : (bs r).extract k (k + 1) = bs [b] := bs_byte hbk
    have hex3 : (bs r).extract (k + 1) r.length = bs (r.drop (k + 1)) := by rw [bs_extract]; simp
    have HB := Lib.hid hbk
    clear hbk hi hk
    go_wp2
    go_region
    all_goals
      go_wp2
      go_ret2
      have hg2 := grown_trans hg1 (grown_set w1 g 0 (.string (bs (r.drop (k + 1)))))
      exact ⟨⟨hg2.os, hg2.tape, hg2.output, hg2.size, hg2.block⟩, _, _, _, _, HQ.out, .inr ⟨k, b, rfl, HB.out, rfl, rfl, rfl⟩, rfl, h1.set (r.drop (k + 1))⟩
theorem take_snoc {r : Bs} {k : Nat} {b : UInt8} (h : r[k]? = some b) : r = r.take k ++ b :: r.drop (k + 1) := by
  conv => lhs; rw [← List.take_append_drop k r, drop_at h]
/-- at one sign -/
def UpOne (c : UInt8) (g : Nat) (r : Bs) (w : World) (e : Ending) (w' : World) : Prop := w.grownBy w' (some g) ∧ ∃ part sign rest, Cut2 [c] r part sign rest ∧ e = .returned (.tuple #[.string (bs part), .string (bs sign)]) ∧ ScanAt w' g rest
theorem cut2_of {cs r part sign rest : Bs} {i : Int} (h : Parted r i part sign rest) (hi : i = Lib.indexAny r cs) : Cut2 cs r part sign rest := by
  rcases indexAny_cases cs r with ⟨h1, h2⟩ | ⟨p, b, t, h1, h2, h3, h4⟩
  · rw [h1] at hi
    rcases h with ⟨_, e1, e2, e3⟩ | ⟨k, b, e0, _⟩
    · exact .inl ⟨e2, e1, e3, h2⟩
    · omega
  · rw [h2] at hi
    rcases h with ⟨e0, _⟩ | ⟨k, b', e0, e1, e2, e3, e4⟩
    · omega
    · have hk : k = p.length := by omega
      subst hk
      have hb : b' = b := by
        rw [h1, List.getElem?_append_right (Nat.le_refl _), Nat.sub_self] at e1
        exact (Option.some.inj e1).symm
      subst hb
      refine .inr ⟨b', e3, ?_, h3, ?_⟩
      · rw [e2, e4]; exact take_snoc e1
      · have : part = p := by rw [e2, h1, List.take_append_of_le_length (Nat.le_refl _), List.take_length]
        rw [this]; exact h4
theorem cut1_of {r part sign rest : Bs} {i : Int} (h : Parted r i part sign rest) : Cut1 r part sign rest := by
  rcases h with ⟨_, e1, e2, e3⟩ | ⟨k, b, e0, e1, e2, e3, e4⟩
  · exact .inl ⟨e2, e1, e3⟩
  · exact .inr ⟨b, e3, by rw [e2, e4]; exact take_snoc e1⟩
theorem upOne_any (c : UInt8) (hc : c.toNat < 128) (g : Nat) (r : Bs) (w : World) (h : ScanAt w g r) (hl : r.length ≤ 1000000000) :
    Calls Tryd.prog 46 #[.pointer (some ⟨g, 0, none⟩), .string (bs [c])] w (UpOne c g r w) := by
  refine (upTo_any (bs [c]) (fun i => i = Lib.indexAny r [c]) g r w h hl (fun i hi => by rw [hi]; exact idx_range r [c]) ((idxOne_any r c hc w).mono fun e w' ⟨he, hb⟩ => ⟨hb, _, he, rfl⟩)).mono ?_
  rintro e w' ⟨h1, i, part, sign, rest, hq, hp, rfl, h2⟩
  exact ⟨h1, part, sign, rest, cut2_of hp hq, rfl, h2⟩
/-- at the two signs of rows -/
def UpTwo (g : Nat) (r : Bs) (w : World) (e : Ending) (w' : World) : Prop := w.grownBy w' (some g) ∧ ∃ part sign rest, Cut1 r part sign rest ∧ ((∀ b ∈ r, b.toNat < 128) → Cut2 [35, 46] r part sign rest) ∧ e = .returned (.tuple #[.string (bs part), .string (bs sign)]) ∧ ScanAt w' g rest
theorem upTwo_any (g : Nat) (r : Bs) (w : World) (h : ScanAt w g r) (hl : r.length ≤ 1000000000) :
    Calls Tryd.prog 46 #[.pointer (some ⟨g, 0, none⟩), .string (bs [35, 46])] w (UpTwo g r w) := by
  refine (upTo_any (bs [35, 46]) (fun i => -1 ≤ i ∧ i < (r.length : Int) ∧ ((∀ b ∈ r, b.toNat < 128) → i = Lib.indexAny r [35, 46])) g r w h hl (fun i hi => ⟨hi.1, hi.2.1⟩) (idx_any r hl w)).mono ?_
  rintro e w' ⟨h1, i, part, sign, rest, ⟨_, _, hq⟩, hp, rfl, h2⟩
  exact ⟨h1, part, sign, rest, cut1_of hp, fun ha => cut2_of hp (hq ha), rfl, h2⟩
end Go.Proofs.YtjncnjcpcmpmcaaDoor
