/- The model's texts: numbers in decimal. No conditions but those typed. -/
import Derived.Test.YtpdnakiilhohdaaDoorTextR
import Derived.Test.YtpdnakiilhohdaaDoorMem
import Derived.WalkLawsBesides
import Derived.Laws.IdiomStrings
import Derived.Deep.RegionWith
import Derived.Deep.RegionHeld3
namespace Go.Proofs.YtpdnakiilhohdaaDoor
open Go.RowKit Go.Sort

theorem one_new (w : World) (v : Value) (T : TypeId) : (w.alloc (.cells #[v] T)).cell? ⟨w.heap.size, 0, none⟩ = some v := by
  have h : (w.alloc (.cells #[v] T)).heap[w.heap.size]? = some (.cells #[v] T) := heap_alloc_new w _
  unfold World.cell?
  rw [h]; rfl
theorem str_add {P : Program} (l m : Bs) (W : World) (h : l.length + m.length ≤ 8388608) : (Op.stringOp .add (bs l) (bs m)).run P W = .ok (.string (bs (l ++ m))) W := by
  rw [run_string_add_sum W _ _ (by rw [bs_size, bs_size]; omega), bs_append]
/-- 'string([]byte{b})' -/
theorem byte_str {d : Nat} (hd : d < 10) (W : World) (g : Nat) (hc : W.cell? ⟨g, 0, none⟩ = some (.int .u8 (48 + (d : Int)))) : (convert 22 9 (.slice (some ⟨g, 0, none⟩) 1 1)).run Tryd.prog W = .ok (.string (bs [digB d])) W :=
  run_convert_bytes_back W 22 9 5 ⟨g, 0, none⟩ 1 [digB d] Tryd.underlying22 Tryd.underlying5 Tryd.underlying9 fun j hj => by
    obtain rfl : j = 0 := by simp at hj; omega
    have e : (((digB d).toNat : Nat) : Int) = 48 + (d : Int) := by rw [digB_toNat hd]; simp
    show W.cell? _ = some (.int .u8 (((digB d).toNat : Nat) : Int))
    rw [e]; exact hc
set_option maxRecDepth 100000 in
theorem natNumber_any : ∀ n : Nat, n < 10 ^ 9 → ∀ w : World, Calls Tryd.prog 38 #[.int .i64 (n : Int)] w (Gives (strV (natB n)) w) := fun n => by
  induction n using Nat.strongRecOn with
  | _ n ih =>
    intro hn w
    have h0 : decide ((n : Int) < 0) = false := decide_eq_false (by omega)
    have h1 : (0 : Int) ≤ (n : Int) := Int.natCast_nonneg _
    have h2 : (n : Int) < 1000000000 := by omega
    by_cases h : n < 10
    · have hd : decide ((n : Int) < 10) = true := decide_eq_true (by omega)
      have h3 : (n : Int) < 10 := by omega
      rw [natB_small h]
      have hconv := byte_str h (w.alloc (.cells #[.int .u8 (48 + (n : Int))] 5)) w.heap.size (one_new _ _ _)
      clear ih hn
      go_enter Tryd.func38, Tryd.ntmps38
      go_wp2
      go_ret
      exact ⟨rfl, (Below.refl _ _).alloc (Nat.le_refl _) _⟩
    · have hd : decide ((n : Int) < 10) = false := decide_eq_false (by omega)
      have h3 : (10 : Int) ≤ (n : Int) := by omega
      rw [natB_big h]
      have e1 : IntKind.i64.wrap ((n : Int) / 10) = ((n / 10 : Nat) : Int) := by
        rw [IntWalk.i64_in _ (by omega)]; omega
      have e2 : IntKind.u8.wrap (IntKind.i64.wrap (48 + (n : Int).tmod 10)) = 48 + ((n % 10 : Nat) : Int) := by
        have hr : (n : Int).tmod 10 = ((n % 10 : Nat) : Int) := by rw [Int.ofNat_tmod]; rfl
        rw [hr, IntWalk.i64_in _ (by omega), IntWalk.u8_in _ (by omega)]
      have IH := Lib.hid (fun W => (show Calls Tryd.prog 38 #[.int .i64 (IntKind.i64.wrap ((n : Int) / 10))] W (Gives (strV (natB (n / 10))) W) by rw [e1]; exact ih (n / 10) (by omega) (by omega) W))
      have hconv := byte_str (d := n % 10) (Nat.mod_lt _ (by omega))
      rw [← e2] at hconv
      have hadd := fun W => str_add (P := Tryd.prog) (natB (n / 10)) [digB (n % 10)] W (by have := natB_length 8 (n / 10) (by omega); simp; omega)
      clear e1 e2
      clear ih hn
      go_enter Tryd.func38, Tryd.ntmps38
      go_wp2
      go_region_with (first
        | (go_at_call 38; (with_reducible refine (IH.out _).mono ?_); rintro e w2 ⟨rfl, b2⟩; have hc := (b2.cell (p := ⟨w.heap.size, 0, none⟩) (show w.heap.size < (w.alloc _).heap.size by simp)).trans (one_new w _ _); have bb := below_step (((Below.refl w.heap.size w).alloc (Nat.le_refl _) _).drew) b2)
        | (go_at_call 38; (with_reducible refine (IH.out _).mono ?_); rintro e w2 ⟨rfl, b2⟩; have bb := below_step (Below.refl w.heap.size w).drew (b2.alloc b2.size (.cells #[.int .u8 (IntKind.u8.wrap (IntKind.i64.wrap (48 + (n : Int).tmod 10)))] 5))))
      all_goals
        go_wp2
        go_ret
        exact ⟨rfl, bb⟩
theorem natNumber_lit {n : Int} {m : Nat} (h : n = (m : Int)) (hm : m < 10 ^ 9) (w : World) : Calls Tryd.prog 38 #[.int .i64 n] w (Gives (strV (natB m)) w) := by
  subst h; exact natNumber_any m hm w
set_option maxRecDepth 100000 in
theorem specNumber_any (n : Int) (h : -1000000 < n ∧ n < 1000000) (w : World) : Calls Tryd.prog 38 #[.int .i64 n] w (Gives (strV (numB n)) w) := by
  by_cases h0 : n < 0
  · have hd : decide (n < 0) = true := decide_eq_true h0
    have hne : (n == -n) = false := by rw [beq_eq_false_iff_ne]; omega
    have e : numB n = 45 :: natB n.natAbs := by unfold numB; rw [if_pos h0]
    rw [e]
    have hadd : ∀ W, (Op.stringOp .add { data := #[45] } (bs (natB n.natAbs))).run Tryd.prog W = .ok (.string (bs (45 :: natB n.natAbs))) W := fun W => str_add (P := Tryd.prog) [45] (natB n.natAbs) W (by have := natB_length 8 n.natAbs (by omega); simp; omega)
    have cc := Lib.hid (fun W => natNumber_lit (n := -n) (m := n.natAbs) (by omega) (by omega) W)
    clear e
    go_enter Tryd.func38, Tryd.ntmps38
    go_wp2_with fail
    refine (cc.out _).mono ?_
    rintro e w2 ⟨rfl, b2⟩
    go_wp2
    go_ret
    exact ⟨rfl, b2⟩
  · have e : numB n = natB n.toNat := by unfold numB; rw [if_neg h0]
    rw [e]
    exact natNumber_lit (by omega) (by omega) w
end Go.Proofs.YtpdnakiilhohdaaDoor
