/- The model's texts: numbers in decimal. No conditions but those typed. -/
import Derived.Test.YtjncnjcpcmpmcaaTextR
import Derived.Test.YtjncnjcpcmpmcaaMem
import Derived.WalkLawsBesides
import Derived.Laws.IdiomStrings
import Derived.Deep.RegionWith
import Derived.Deep.RegionHeld3
namespace Go.Proofs.Ytjncnjcpcmpmcaa
open Go.RowKit Go.Sort

theorem one_new (w : World) (v : Value) (T : TypeId) : (w.alloc (.cells #[v] T)).cell? ⟨w.heap.size, 0, none⟩ = some v := by
  have h : (w.alloc (.cells #[v] T)).heap[w.heap.size]? = some (.cells #[v] T) := heap_alloc_new w _
  unfold World.cell?
  rw [h]; rfl
theorem str_add {P : Program} (l m : Bs) (W : World) (h : l.length + m.length ≤ 8388608) : (Op.stringOp .add (bs l) (bs m)).run P W = .ok (.string (bs (l ++ m))) W := by
  rw [run_string_add_sum W _ _ (by rw [bs_size, bs_size]; omega), bs_append]
/-- 'string([]byte{b})' -/
theorem byte_str {d : Nat} (hd : d < 10) (W : World) (g : Nat) (hc : W.cell? ⟨g, 0, none⟩ = some (.int .u8 (48 + (d : Int)))) : (convert 22 9 (.slice (some ⟨g, 0, none⟩) 1 1)).run Try.prog W = .ok (.string (bs [digB d])) W :=
  run_convert_bytes_back W 22 9 5 ⟨g, 0, none⟩ 1 [digB d] Try.underlying22 Try.underlying5 Try.underlying9 fun j hj => by
    obtain rfl : j = 0 := by simp at hj; omega
    have e : (((digB d).toNat : Nat) : Int) = 48 + (d : Int) := by rw [digB_toNat hd]; simp
    show W.cell? _ = some (.int .u8 (((digB d).toNat : Nat) : Int))
    rw [e]; exact hc
end Go.Proofs.Ytjncnjcpcmpmcaa
