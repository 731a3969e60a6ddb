/- Cut out of PnI. -/
import Derived.Test.YtcmkcloapenpnaaGreatDoorPnC
import Derived.Test.YtcmkcloapenpnaaGreatDoorPnG
import Derived.Test.YtcmkcloapenpnaaGreatDoorPnH
import Derived.Test.YtcmkcloapenpnaaGreatDoorRows
import Derived.Stop.LaidErr
import Derived.LaidMore
namespace Go.Proofs.YtcmkcloapenpnaaGreatDoor
open Go.RowKit
set_option maxHeartbeats 12800000
set_option maxRecDepth 100000
abbrev laidL : List (String × DataW Unit) := [("math/bits.deBruijn32tab", Rows.laid_math_bits_deBruijn32tab), ("math/bits.deBruijn64tab", Rows.laid_math_bits_deBruijn64tab), ("internal/strconv.uint64pow10", Rows.laid_internal_strconv_uint64pow10), ("strconv.ErrRange", Rows.laid_strconv_ErrRange), ("strconv.ErrSyntax", Rows.laid_strconv_ErrSyntax)]
theorem g_pow : Tryz.prog.globalNamed "internal/strconv.uint64pow10" = some 1 := by kernel_rfl
theorem g_powT : (Tryz.prog.globals[1]?).map (·.type) = some 139 := by kernel_rfl
theorem g_syn : Tryz.prog.globalNamed "strconv.ErrSyntax" = some 2 := by kernel_rfl
theorem g_synT : (Tryz.prog.globals[2]?).map (·.type) = some 65 := by kernel_rfl
theorem g_rng : Tryz.prog.globalNamed "strconv.ErrRange" = some 3 := by kernel_rfl
theorem g_rngT : (Tryz.prog.globals[3]?).map (·.type) = some 65 := by kernel_rfl
theorem cellsE : Tryz.prog.cellsOf 152 = 1 := by kernel_rfl
theorem cellsS : Tryz.prog.cellsOf 9 = 1 := by kernel_rfl
theorem cellsU : Tryz.prog.cellsOf 121 = 1 := by kernel_rfl
theorem cellsP : Tryz.prog.cellsOf 139 = 20 := by kernel_rfl
theorem star : "*" ++ "errors.errorString" = "*errors.errorString" := by decide
theorem rowE (u : TypeId) (h : Tryz.prog.typeName? 3 u = some "*errors.errorString") : u = 150 :=
  typeName_ptr_named (nm := "errors.errorString") (by rw [star]; kernel_rfl) (by kernel_rfl) (by decide) u (by rw [star]; exact h)
theorem ld_of {W : World} (h : laidMetH Tryz.prog laidL W) : Ld W := by
  rw [MakeChecks.laidMetH_plain _ _ _ (by kernel_rfl)] at h
  have h3 := h.tail.tail
  refine ⟨Lib.tabIs_of_head g_pow g_powT Tryz.underlying139 Tryz.underlying121 cellsU cellsP h3, ?_, ?_⟩
  · obtain ⟨a0, s0, hv0, -, -, -⟩ := laid_sentinel h3.tail.tail g_syn g_synT Tryz.underlying65 rowE Tryz.underlying150 Tryz.underlying152 rfl rfl Tryz.underlying9 cellsE cellsS
    exact ⟨_, _, hv0⟩
  · obtain ⟨a0, s0, hv0, -, -, -⟩ := laid_sentinel h3.tail g_rng g_rngT Tryz.underlying65 rowE Tryz.underlying150 Tryz.underlying152 rfl rfl Tryz.underlying9 cellsE cellsS
    exact ⟨_, _, hv0⟩
end Go.Proofs.YtcmkcloapenpnaaGreatDoor
