/- Landed prefix: what the laws ask of it, and what the row's laid variables give. -/
import Derived.Test.YtcmkcloapenpnaaDoorPnE
import Derived.Test.YtcmkcloapenpnaaDoorPnH
import Derived.Test.YtcmkcloapenpnaaDoorPfF
import Derived.Test.YtcmkcloapenpnaaDoorRows
import Derived.Stop.LaidErr
import Derived.LaidMore
namespace Go.Proofs.YtcmkcloapenpnaaDoor
open Go.RowKit
set_option maxHeartbeats 6400000
set_option maxRecDepth 100000
theorem pref_spec : PrefSpec Ld 10 12 14 16 where
  on := fun _ _ h hb => h.on hb
  read := fun s w hL h => read_land s w hL h
  shows := fun a n w hL ha _ => show_land a n w hL ha
  ins := fun a n b w h1 h2 _ => in_land a n b w h1 h2
  mats := fun m t w h1 h2 h3 h4 _ _ => matches_land m t w h1 h2 h3 h4
abbrev laidL : List (String × DataW Unit) := [("math/bits.deBruijn32tab", Rows.laid_math_bits_deBruijn32tab), ("math/bits.deBruijn64tab", Rows.laid_math_bits_deBruijn64tab), ("internal/strconv.uint64pow10", Rows.laid_internal_strconv_uint64pow10), ("strconv.ErrRange", Rows.laid_strconv_ErrRange), ("strconv.ErrSyntax", Rows.laid_strconv_ErrSyntax)]
theorem g_pow : Tryd.prog.globalNamed "internal/strconv.uint64pow10" = some 1 := by kernel_rfl
theorem g_powT : (Tryd.prog.globals[1]?).map (·.type) = some 136 := by kernel_rfl
theorem g_syn : Tryd.prog.globalNamed "strconv.ErrSyntax" = some 2 := by kernel_rfl
theorem g_synT : (Tryd.prog.globals[2]?).map (·.type) = some 81 := by kernel_rfl
theorem g_rng : Tryd.prog.globalNamed "strconv.ErrRange" = some 3 := by kernel_rfl
theorem g_rngT : (Tryd.prog.globals[3]?).map (·.type) = some 81 := by kernel_rfl
theorem cellsE : Tryd.prog.cellsOf 151 = 1 := by kernel_rfl
theorem cellsS : Tryd.prog.cellsOf 9 = 1 := by kernel_rfl
theorem cellsU : Tryd.prog.cellsOf 59 = 1 := by kernel_rfl
theorem cellsP : Tryd.prog.cellsOf 136 = 20 := by kernel_rfl
theorem star : "*" ++ "errors.errorString" = "*errors.errorString" := by decide
theorem rowE (u : TypeId) (h : Tryd.prog.typeName? 3 u = some "*errors.errorString") : u = 149 :=
  typeName_ptr_named (nm := "errors.errorString") (by rw [star]; kernel_rfl) (by kernel_rfl) (by decide) u (by rw [star]; exact h)
theorem ld_of {W : World} (h : laidMetH Tryd.prog laidL W) : Ld W := by
  rw [MakeChecks.laidMetH_plain _ _ _ (by kernel_rfl)] at h
  have h3 := h.tail.tail
  refine ⟨Lib.tabIs_of_head g_pow g_powT Tryd.underlying136 Tryd.underlying59 cellsU cellsP h3, ?_, ?_⟩
  · obtain ⟨a0, s0, hv0, -, -, -⟩ := laid_sentinel h3.tail.tail g_syn g_synT Tryd.underlying81 rowE Tryd.underlying149 Tryd.underlying151 rfl rfl Tryd.underlying9 cellsE cellsS
    exact ⟨_, _, hv0⟩
  · obtain ⟨a0, s0, hv0, -, -, -⟩ := laid_sentinel h3.tail g_rng g_rngT Tryd.underlying81 rowE Tryd.underlying149 Tryd.underlying151 rfl rfl Tryd.underlying9 cellsE cellsS
    exact ⟨_, _, hv0⟩
end Go.Proofs.YtcmkcloapenpnaaDoor
