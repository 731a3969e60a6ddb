/- Landed prefix: strings.Cut at one byte. -/
import Derived.Test.YtcmkcloapenpnaaDoorPnC
import Derived.Test.YtcmkcloapenpnaaDoorWdT
import Derived.Laws.Strings3
import Derived.OwnWalk
namespace Go.Proofs.YtcmkcloapenpnaaDoor
open Go.RowKit
set_option maxHeartbeats 6400000
set_option maxRecDepth 100000
theorem run_head (l : List UInt8) (k : Nat) (h : k ≤ l.length) (W : World) : (Instr.slice 9 (.string (txt l)) none (some (.int .i64 (k : Int))) none).run Tryd.prog W = .ok (.string (txt (l.take k))) W := by
  rw [run_slice_string_to_if _ 9 (txt l) .i64 (k : Int) Tryd.underlying9, if_pos ⟨by omega, by rw [txt_size]; omega⟩, Int.toNat_natCast]
  congr 2
  show (ByteArray.mk l.toArray).extract 0 k = _
  rw [ByteArray.extract_mk]
  simp [txt]
theorem run_rest (l : List UInt8) (k : Nat) (h : k ≤ l.length) (W : World) : (Instr.slice 9 (.string (txt l)) (some (.int .i64 (k : Int))) none none).run Tryd.prog W = .ok (.string (txt (l.drop k))) W := by
  rw [run_slice_string_from_if _ 9 (txt l) .i64 (k : Int) Tryd.underlying9, if_pos ⟨by omega, by rw [txt_size]; omega⟩, Int.toNat_natCast]
  congr 2
  show (ByteArray.mk l.toArray).extract k l.length = _
  rw [ByteArray.extract_mk]
  simp only [txt]
  rw [List.take_of_length_le (by rw [List.length_drop]; omega)]
theorem scut_any (l : List UInt8) (c : UInt8) (w : World) (hl : l.length ≤ 10000) :
    ∃ b : Bool, Calls Tryd.prog 42 #[.string (txt l), .string ⟨#[c]⟩] w fun e w' => e = .returned (.tuple #[.string (txt (cutA c l).1), .string (txt (cutA c l).2), .bool b]) ∧ Below w.heap.size w w' := by
  have hZ : (txt l).size = l.length := rfl
  have hZ2 : (⟨#[c]⟩ : ByteArray).size = 1 := rfl
  have hI := hid (fun W => stringslite_Index_one (txt l) c W)
  have hd : (txt l).data.toList = l := by simp [txt]
  rw [hd] at hI
  rcases cutA_index c l with ⟨h1, h2⟩ | ⟨k, hk, h1, h2⟩
  · refine ⟨false, ?_⟩
    rw [h1] at hI
    rw [h2]
    clear h1 h2
    go_enter Tryd.func42, Tryd.ntmps42
    go_wp2_with (go_at_call 65; (with_reducible refine (hI.out _).mono ?_); rintro e' _ ⟨rfl, rfl⟩)
    go_ret3
    exact ⟨rfl, Below.refl _ _⟩
  · refine ⟨true, ?_⟩
    rw [h1] at hI
    rw [h2]
    have R1 := run_head l k (by omega)
    have R2 := run_rest l (k + 1) (by omega)
    have d1 : decide ((0 : Int) ≤ (k : Int)) = true := decide_eq_true (by omega)
    have e1 : IntKind.i64.wrap ((k : Int) + 1) = (k : Int) + 1 := by rw [IntKind.wrap_i64]; omega
    rw [Int.natCast_add] at R2
    change ∀ W, (Instr.slice 9 (.string (txt l)) (some (.int .i64 ((k : Int) + 1))) none none).run Tryd.prog W = .ok (.string (txt (l.drop (k + 1)))) W at R2
    obtain ⟨P1, hP1⟩ : ∃ p, l.take k = p := ⟨_, rfl⟩
    obtain ⟨P2, hP2⟩ : ∃ p, l.drop (k + 1) = p := ⟨_, rfl⟩
    rw [hP1] at R1
    simp only [hP2] at R2
    rw [hP1, hP2]
    clear h1 h2 hP1 hP2 hd
    go_enter Tryd.func42, Tryd.ntmps42
    go_wp2_with (go_at_call 65; (with_reducible refine (hI.out _).mono ?_); rintro e' _ ⟨rfl, rfl⟩)
    go_big_quiet (fail)
    go_wp2_with fail
    go_ret3
    exact ⟨rfl, rfl, rfl, rfl, Nat.le_refl _, fun _ _ => rfl⟩
theorem cut_any (l : List UInt8) (c : UInt8) (w : World) (hl : l.length ≤ 10000) :
    ∃ b : Bool, Calls Tryd.prog 23 #[.string (txt l), .string ⟨#[c]⟩] w fun e w' => e = .returned (.tuple #[.string (txt (cutA c l).1), .string (txt (cutA c l).2), .bool b]) ∧ Below w.heap.size w w' := by
  obtain ⟨b, hb⟩ := scut_any l c w hl
  have HB := hid hb
  refine ⟨b, ?_⟩
  clear hb
  go_enter Tryd.func23, Tryd.ntmps23
  go_wp2_with (go_at_call 42; (with_reducible refine HB.out.mono ?_); rintro e' w1 ⟨rfl, h1⟩)
  go_ret3
  exact ⟨rfl, h1⟩
end Go.Proofs.YtcmkcloapenpnaaDoor
