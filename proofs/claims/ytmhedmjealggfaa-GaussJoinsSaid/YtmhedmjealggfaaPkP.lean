import Derived.Test.YtmhedmjealggfaaPkN
import Derived.Outline
import Derived.Deep.OwnRows
import Derived.StillTailTactics
namespace Go.Proofs.Ytmhedmjealggfaa
open Go.RowKit
set_option maxHeartbeats 1600000
set_option maxRecDepth 100000
theorem bytes_not (t : Tup) (hk : t.ok = false) (w : World) :
    Calls Try.prog 11 #[.agg #[.int .u32 t.src, .int .u32 t.dst, .int .i64 t.pro, .int .i64 t.sp, .int .i64 t.dp]] w fun e w' => e = .returned (.slice none 0 0) ∧ Below w.heap.size w w' := by
  obtain ⟨a, b, p, q, r⟩ := t
  have hb : ¬(0 ≤ p ∧ p ≤ 255) ∨ (0 ≤ p ∧ p ≤ 255) ∧ (¬(0 ≤ q ∧ q ≤ 65535) ∨ (0 ≤ q ∧ q ≤ 65535) ∧ ¬(0 ≤ r ∧ r ≤ 65535)) := by
    simp only [Tup.ok, decide_eq_false_iff_not] at hk
    omega
  clear hk
  rcases hb with h1 | ⟨⟨h1, h1'⟩, h2 | ⟨⟨h2, h2'⟩, h3⟩⟩
  · have H := hid h1; clear h1
    go_enter Try.func11, Try.ntmps11
    go_wp2_with (go_at_call 22; refine (within_no _ _ _ H.out).mono ?_; rintro e w' ⟨rfl, rfl⟩)
    go_ret
    exact ⟨rfl, (Below.refl _ _).alloc (Nat.le_refl _) _⟩
  · have H := hid h2; clear h2
    go_enter Try.func11, Try.ntmps11
    go_wp2_with (go_at_call 22; first | (refine (within_yes _ _ _ (by omega) (by omega)).mono ?_; rintro e w' ⟨rfl, rfl⟩) | (with_reducible refine (within_no _ _ _ H.out).mono ?_; rintro e w' ⟨rfl, rfl⟩) )
    go_ret
    exact ⟨rfl, (Below.refl _ _).alloc (Nat.le_refl _) _⟩
  · have H := hid h3; clear h3
    go_enter Try.func11, Try.ntmps11
    go_wp2_with (go_at_call 22; first | (refine (within_yes _ _ _ (by omega) (by omega)).mono ?_; rintro e w' ⟨rfl, rfl⟩) | (with_reducible refine (within_no _ _ _ H.out).mono ?_; rintro e w' ⟨rfl, rfl⟩) )
    go_ret
    exact ⟨rfl, (Below.refl _ _).alloc (Nat.le_refl _) _⟩

theorem made13 : madeCells #[.int .u8 0] 13 = #[.int .u8 0, .int .u8 0, .int .u8 0, .int .u8 0, .int .u8 0, .int .u8 0, .int .u8 0, .int .u8 0, .int .u8 0, .int .u8 0, .int .u8 0, .int .u8 0, .int .u8 0] := by kernel_rfl
theorem make13 (w : World) : (Instr.makeSlice 25 (.int .i64 13) (.int .i64 13)).run Try.prog w = .ok (.slice (some ⟨w.heap.size, 0, none⟩) 13 13)
    (w.alloc (.cells #[.int .u8 0, .int .u8 0, .int .u8 0, .int .u8 0, .int .u8 0, .int .u8 0, .int .u8 0, .int .u8 0, .int .u8 0, .int .u8 0, .int .u8 0, .int .u8 0, .int .u8 0] 5)) := by
  rw [← made13]
  exact run_make_row' (P := Try.prog) 25 5 (.int .u8 0) 1 Try.underlying25 Try.info5 rfl .i64 .i64 13 (by omega) (by omega) w
theorem bytes_good (t : Tup) (hf : t.fits) (hk : t.ok = true) (w : World) :
    Calls Try.prog 11 #[.agg #[.int .u32 t.src, .int .u32 t.dst, .int .i64 t.pro, .int .i64 t.sp, .int .i64 t.dp]] w fun e w' => ∃ g, e = .returned (.slice (some ⟨g, 0, none⟩) 13 13) ∧ RByt w' w'.heap.size (some ⟨g, 0, none⟩) 13 t.bytes ∧ Below w.heap.size w w' := by
  obtain ⟨a, b, p, q, r⟩ := t
  have hbs : Tup.bytes ⟨a, b, p, q, r⟩ = be4s a ++ (be4s b ++ [byt p, byt (q / 256), byt q, byt (r / 256), byt r]) := if_pos hk
  have HB := hid hbs; clear hbs
  simp only [Tup.ok, decide_eq_true_eq] at hk
  simp only [Tup.fits] at hf
  obtain ⟨h1, h1', h2, h2', h3, h3'⟩ := hk
  obtain ⟨ha, ha', hb, hb'⟩ := hf
  have hm := make13
  obtain ⟨w2, hW⟩ : ∃ w2, w2 = (w.alloc (.cells #[.int .u32 a, .int .u32 b, .int .i64 p, .int .i64 q, .int .i64 r] 24)).alloc (.cells #[.int .u8 0, .int .u8 0, .int .u8 0, .int .u8 0, .int .u8 0, .int .u8 0, .int .u8 0, .int .u8 0, .int .u8 0, .int .u8 0, .int .u8 0, .int .u8 0, .int .u8 0] 5) := ⟨_, rfl⟩
  have HW := hid hW
  clear hW
  go_enter Try.func11, Try.ntmps11
  go_wp2_with (go_at_call 22; refine (within_yes _ _ _ (by omega) (by omega)).mono ?_; rintro e w' ⟨rfl, rfl⟩)
  rw [← HW.out]
  clear hm
  have s0 : w2.cell? ⟨w.heap.size, 0, none⟩ = some (.int .u32 a) := by rw [HW.out]; simp [go_sem]
  have s1 : w2.cell? ⟨w.heap.size, 1, none⟩ = some (.int .u32 b) := by rw [HW.out]; simp [go_sem]
  have s2 : w2.cell? ⟨w.heap.size, 2, none⟩ = some (.int .i64 p) := by rw [HW.out]; simp [go_sem]
  have s3 : w2.cell? ⟨w.heap.size, 3, none⟩ = some (.int .i64 q) := by rw [HW.out]; simp [go_sem]
  have s4 : w2.cell? ⟨w.heap.size, 4, none⟩ = some (.int .i64 r) := by rw [HW.out]; simp [go_sem]
  have f0 : ∀ j, w2.frozen? ⟨w.heap.size + 1, j, none⟩ = false := fun j => by rw [HW.out]; simp [go_sem]
  have c0 : ∀ j, j < 13 → w2.cell? ⟨w.heap.size + 1, j, none⟩ = some (.int .u8 0) := fun j hj => by
    rw [HW.out]
    rcases j with _ | _ | _ | _ | _ | _ | _ | _ | _ | _ | _ | _ | _ | j <;> first | omega | simp [go_sem]
  have z0 := c0 0 (by omega); have z1 := c0 1 (by omega); have z2 := c0 2 (by omega); have z3 := c0 3 (by omega); have z4 := c0 4 (by omega); have z5 := c0 5 (by omega); have z6 := c0 6 (by omega)
  have z7 := c0 7 (by omega); have z8 := c0 8 (by omega); have z9 := c0 9 (by omega); have z10 := c0 10 (by omega); have z11 := c0 11 (by omega); have z12 := c0 12 (by omega)
  clear c0
  have hb2 : Below w.heap.size w w2 := by rw [HW.out]; exact ((Below.refl _ _).alloc (Nat.le_refl _) _).alloc (by simp) _
  go_still_tail 4, (by kernel_rfl)
  change wpList _ _ _ _ _ w2.drew
  go_wp2_with (go_at_call 23; refine (write4 _ _ _ _ _ (by omega) (by omega) (by go_simp) (by go_simp) (by go_simp) (by go_simp) (by go_simp) (by go_simp) (by go_simp) (by go_simp)).mono ?_; rintro e w3 ⟨rfl, hw⟩; have Hw3 := hid hw; clear hw)
  have s1' : w3.cell? ⟨w.heap.size, 1, none⟩ = some (.int .u32 b) := by rw [Hw3.out]; simp [go_sem, s1]
  have s2' : w3.cell? ⟨w.heap.size, 2, none⟩ = some (.int .i64 p) := by rw [Hw3.out]; simp [go_sem, s2]
  have s3' : w3.cell? ⟨w.heap.size, 3, none⟩ = some (.int .i64 q) := by rw [Hw3.out]; simp [go_sem, s3]
  have s4' : w3.cell? ⟨w.heap.size, 4, none⟩ = some (.int .i64 r) := by rw [Hw3.out]; simp [go_sem, s4]
  have z0' : w3.cell? ⟨w.heap.size + 1, 0, none⟩ = some (.int .u8 (a / 256 / 256 / 256)) := by rw [Hw3.out]; simp [go_sem, z0]
  have z1' : w3.cell? ⟨w.heap.size + 1, 1, none⟩ = some (.int .u8 (a / 256 / 256 % 256)) := by rw [Hw3.out]; simp [go_sem, z1]
  have z2' : w3.cell? ⟨w.heap.size + 1, 2, none⟩ = some (.int .u8 (a / 256 % 256)) := by rw [Hw3.out]; simp [go_sem, z2]
  have z3' : w3.cell? ⟨w.heap.size + 1, 3, none⟩ = some (.int .u8 (a % 256)) := by rw [Hw3.out]; simp [go_sem, z3]
  have z4' : w3.cell? ⟨w.heap.size + 1, 4, none⟩ = some (.int .u8 0) := by rw [Hw3.out]; simp [go_sem, z4]
  have z5' : w3.cell? ⟨w.heap.size + 1, 5, none⟩ = some (.int .u8 0) := by rw [Hw3.out]; simp [go_sem, z5]
  have z6' : w3.cell? ⟨w.heap.size + 1, 6, none⟩ = some (.int .u8 0) := by rw [Hw3.out]; simp [go_sem, z6]
  have z7' : w3.cell? ⟨w.heap.size + 1, 7, none⟩ = some (.int .u8 0) := by rw [Hw3.out]; simp [go_sem, z7]
  have z8' : w3.cell? ⟨w.heap.size + 1, 8, none⟩ = some (.int .u8 0) := by rw [Hw3.out]; simp [go_sem, z8]
  have z9' : w3.cell? ⟨w.heap.size + 1, 9, none⟩ = some (.int .u8 0) := by rw [Hw3.out]; simp [go_sem, z9]
  have z10' : w3.cell? ⟨w.heap.size + 1, 10, none⟩ = some (.int .u8 0) := by rw [Hw3.out]; simp [go_sem, z10]
  have z11' : w3.cell? ⟨w.heap.size + 1, 11, none⟩ = some (.int .u8 0) := by rw [Hw3.out]; simp [go_sem, z11]
  have z12' : w3.cell? ⟨w.heap.size + 1, 12, none⟩ = some (.int .u8 0) := by rw [Hw3.out]; simp [go_sem, z12]
  have fw3 : ∀ j, w3.frozen? ⟨w.heap.size + 1, j, none⟩ = false := fun j => by rw [Hw3.out]; simp [go_sem, f0]
  have bw3 : Below w.heap.size w w3 := by rw [Hw3.out]; repeat (first | exact hb2 | exact hb2.drew | (refine Below.setCell ?_ (Nat.le_succ _) _))
  clear s0 s1 s2 s3 s4 z0 z1 z2 z3 z4 z5 z6 z7 z8 z9 z10 z11 z12 f0
  have s1 := s1'; clear s1'
  have s2 := s2'; clear s2'
  have s3 := s3'; clear s3'
  have s4 := s4'; clear s4'
  have z0 := z0'; clear z0'
  have z1 := z1'; clear z1'
  have z2 := z2'; clear z2'
  have z3 := z3'; clear z3'
  have z4 := z4'; clear z4'
  have z5 := z5'; clear z5'
  have z6 := z6'; clear z6'
  have z7 := z7'; clear z7'
  have z8 := z8'; clear z8'
  have z9 := z9'; clear z9'
  have z10 := z10'; clear z10'
  have z11 := z11'; clear z11'
  have z12 := z12'; clear z12'
  go_still_tail 4, (by kernel_rfl)
  change wpList _ _ _ _ _ w3.drew
  go_wp2_with (go_at_call 23; refine (write4 _ _ _ _ _ (by omega) (by omega) (by go_simp) (by go_simp) (by go_simp) (by go_simp) (by go_simp) (by go_simp) (by go_simp) (by go_simp)).mono ?_; rintro e w4 ⟨rfl, hw⟩; have Hw4 := hid hw; clear hw)
  have s2' : w4.cell? ⟨w.heap.size, 2, none⟩ = some (.int .i64 p) := by rw [Hw4.out]; simp [go_sem, s2]
  have s3' : w4.cell? ⟨w.heap.size, 3, none⟩ = some (.int .i64 q) := by rw [Hw4.out]; simp [go_sem, s3]
  have s4' : w4.cell? ⟨w.heap.size, 4, none⟩ = some (.int .i64 r) := by rw [Hw4.out]; simp [go_sem, s4]
  have z0' : w4.cell? ⟨w.heap.size + 1, 0, none⟩ = some (.int .u8 (a / 256 / 256 / 256)) := by rw [Hw4.out]; simp [go_sem, z0]
  have z1' : w4.cell? ⟨w.heap.size + 1, 1, none⟩ = some (.int .u8 (a / 256 / 256 % 256)) := by rw [Hw4.out]; simp [go_sem, z1]
  have z2' : w4.cell? ⟨w.heap.size + 1, 2, none⟩ = some (.int .u8 (a / 256 % 256)) := by rw [Hw4.out]; simp [go_sem, z2]
  have z3' : w4.cell? ⟨w.heap.size + 1, 3, none⟩ = some (.int .u8 (a % 256)) := by rw [Hw4.out]; simp [go_sem, z3]
  have z4' : w4.cell? ⟨w.heap.size + 1, 4, none⟩ = some (.int .u8 (b / 256 / 256 / 256)) := by rw [Hw4.out]; simp [go_sem, z4]
  have z5' : w4.cell? ⟨w.heap.size + 1, 5, none⟩ = some (.int .u8 (b / 256 / 256 % 256)) := by rw [Hw4.out]; simp [go_sem, z5]
  have z6' : w4.cell? ⟨w.heap.size + 1, 6, none⟩ = some (.int .u8 (b / 256 % 256)) := by rw [Hw4.out]; simp [go_sem, z6]
  have z7' : w4.cell? ⟨w.heap.size + 1, 7, none⟩ = some (.int .u8 (b % 256)) := by rw [Hw4.out]; simp [go_sem, z7]
  have z8' : w4.cell? ⟨w.heap.size + 1, 8, none⟩ = some (.int .u8 0) := by rw [Hw4.out]; simp [go_sem, z8]
  have z9' : w4.cell? ⟨w.heap.size + 1, 9, none⟩ = some (.int .u8 0) := by rw [Hw4.out]; simp [go_sem, z9]
  have z10' : w4.cell? ⟨w.heap.size + 1, 10, none⟩ = some (.int .u8 0) := by rw [Hw4.out]; simp [go_sem, z10]
  have z11' : w4.cell? ⟨w.heap.size + 1, 11, none⟩ = some (.int .u8 0) := by rw [Hw4.out]; simp [go_sem, z11]
  have z12' : w4.cell? ⟨w.heap.size + 1, 12, none⟩ = some (.int .u8 0) := by rw [Hw4.out]; simp [go_sem, z12]
  have fw4 : ∀ j, w4.frozen? ⟨w.heap.size + 1, j, none⟩ = false := fun j => by rw [Hw4.out]; simp [go_sem, fw3]
  have bw4 : Below w.heap.size w w4 := by rw [Hw4.out]; repeat (first | exact bw3 | exact bw3.drew | (refine Below.setCell ?_ (Nat.le_succ _) _))
  clear s1 s2 s3 s4 z0 z1 z2 z3 z4 z5 z6 z7 z8 z9 z10 z11 z12 fw3
  have s2 := s2'; clear s2'
  have s3 := s3'; clear s3'
  have s4 := s4'; clear s4'
  have z0 := z0'; clear z0'
  have z1 := z1'; clear z1'
  have z2 := z2'; clear z2'
  have z3 := z3'; clear z3'
  have z4 := z4'; clear z4'
  have z5 := z5'; clear z5'
  have z6 := z6'; clear z6'
  have z7 := z7'; clear z7'
  have z8 := z8'; clear z8'
  have z9 := z9'; clear z9'
  have z10 := z10'; clear z10'
  have z11 := z11'; clear z11'
  have z12 := z12'; clear z12'
  go_still_tail 5, (by kernel_rfl)
  change wpList _ _ _ _ _ w4.drew
  go_wp2_with (go_at_call 23; refine (write1 _ _ _ _ _ (by omega) (by omega) (by go_simp) (by go_simp)).mono ?_; rintro e w5 ⟨rfl, hw⟩; have Hw5 := hid hw; clear hw)
  have s3' : w5.cell? ⟨w.heap.size, 3, none⟩ = some (.int .i64 q) := by rw [Hw5.out]; simp [go_sem, s3]
  have s4' : w5.cell? ⟨w.heap.size, 4, none⟩ = some (.int .i64 r) := by rw [Hw5.out]; simp [go_sem, s4]
  have z0' : w5.cell? ⟨w.heap.size + 1, 0, none⟩ = some (.int .u8 (a / 256 / 256 / 256)) := by rw [Hw5.out]; simp [go_sem, z0]
  have z1' : w5.cell? ⟨w.heap.size + 1, 1, none⟩ = some (.int .u8 (a / 256 / 256 % 256)) := by rw [Hw5.out]; simp [go_sem, z1]
  have z2' : w5.cell? ⟨w.heap.size + 1, 2, none⟩ = some (.int .u8 (a / 256 % 256)) := by rw [Hw5.out]; simp [go_sem, z2]
  have z3' : w5.cell? ⟨w.heap.size + 1, 3, none⟩ = some (.int .u8 (a % 256)) := by rw [Hw5.out]; simp [go_sem, z3]
  have z4' : w5.cell? ⟨w.heap.size + 1, 4, none⟩ = some (.int .u8 (b / 256 / 256 / 256)) := by rw [Hw5.out]; simp [go_sem, z4]
  have z5' : w5.cell? ⟨w.heap.size + 1, 5, none⟩ = some (.int .u8 (b / 256 / 256 % 256)) := by rw [Hw5.out]; simp [go_sem, z5]
  have z6' : w5.cell? ⟨w.heap.size + 1, 6, none⟩ = some (.int .u8 (b / 256 % 256)) := by rw [Hw5.out]; simp [go_sem, z6]
  have z7' : w5.cell? ⟨w.heap.size + 1, 7, none⟩ = some (.int .u8 (b % 256)) := by rw [Hw5.out]; simp [go_sem, z7]
  have z8' : w5.cell? ⟨w.heap.size + 1, 8, none⟩ = some (.int .u8 (p % 256)) := by rw [Hw5.out]; simp [go_sem, z8]
  have z9' : w5.cell? ⟨w.heap.size + 1, 9, none⟩ = some (.int .u8 0) := by rw [Hw5.out]; simp [go_sem, z9]
  have z10' : w5.cell? ⟨w.heap.size + 1, 10, none⟩ = some (.int .u8 0) := by rw [Hw5.out]; simp [go_sem, z10]
  have z11' : w5.cell? ⟨w.heap.size + 1, 11, none⟩ = some (.int .u8 0) := by rw [Hw5.out]; simp [go_sem, z11]
  have z12' : w5.cell? ⟨w.heap.size + 1, 12, none⟩ = some (.int .u8 0) := by rw [Hw5.out]; simp [go_sem, z12]
  have fw5 : ∀ j, w5.frozen? ⟨w.heap.size + 1, j, none⟩ = false := fun j => by rw [Hw5.out]; simp [go_sem, fw4]
  have bw5 : Below w.heap.size w w5 := by rw [Hw5.out]; repeat (first | exact bw4 | exact bw4.drew | (refine Below.setCell ?_ (Nat.le_succ _) _))
  clear s2 s3 s4 z0 z1 z2 z3 z4 z5 z6 z7 z8 z9 z10 z11 z12 fw4
  have s3 := s3'; clear s3'
  have s4 := s4'; clear s4'
  have z0 := z0'; clear z0'
  have z1 := z1'; clear z1'
  have z2 := z2'; clear z2'
  have z3 := z3'; clear z3'
  have z4 := z4'; clear z4'
  have z5 := z5'; clear z5'
  have z6 := z6'; clear z6'
  have z7 := z7'; clear z7'
  have z8 := z8'; clear z8'
  have z9 := z9'; clear z9'
  have z10 := z10'; clear z10'
  have z11 := z11'; clear z11'
  have z12 := z12'; clear z12'
  go_still_tail 5, (by kernel_rfl)
  change wpList _ _ _ _ _ w5.drew
  go_wp2_with (go_at_call 23; refine (write2 _ _ _ _ _ (by omega) (by omega) (by go_simp) (by go_simp) (by go_simp) (by go_simp)).mono ?_; rintro e w6 ⟨rfl, hw⟩; have Hw6 := hid hw; clear hw)
  have s4' : w6.cell? ⟨w.heap.size, 4, none⟩ = some (.int .i64 r) := by rw [Hw6.out]; simp [go_sem, s4]
  have z0' : w6.cell? ⟨w.heap.size + 1, 0, none⟩ = some (.int .u8 (a / 256 / 256 / 256)) := by rw [Hw6.out]; simp [go_sem, z0]
  have z1' : w6.cell? ⟨w.heap.size + 1, 1, none⟩ = some (.int .u8 (a / 256 / 256 % 256)) := by rw [Hw6.out]; simp [go_sem, z1]
  have z2' : w6.cell? ⟨w.heap.size + 1, 2, none⟩ = some (.int .u8 (a / 256 % 256)) := by rw [Hw6.out]; simp [go_sem, z2]
  have z3' : w6.cell? ⟨w.heap.size + 1, 3, none⟩ = some (.int .u8 (a % 256)) := by rw [Hw6.out]; simp [go_sem, z3]
  have z4' : w6.cell? ⟨w.heap.size + 1, 4, none⟩ = some (.int .u8 (b / 256 / 256 / 256)) := by rw [Hw6.out]; simp [go_sem, z4]
  have z5' : w6.cell? ⟨w.heap.size + 1, 5, none⟩ = some (.int .u8 (b / 256 / 256 % 256)) := by rw [Hw6.out]; simp [go_sem, z5]
  have z6' : w6.cell? ⟨w.heap.size + 1, 6, none⟩ = some (.int .u8 (b / 256 % 256)) := by rw [Hw6.out]; simp [go_sem, z6]
  have z7' : w6.cell? ⟨w.heap.size + 1, 7, none⟩ = some (.int .u8 (b % 256)) := by rw [Hw6.out]; simp [go_sem, z7]
  have z8' : w6.cell? ⟨w.heap.size + 1, 8, none⟩ = some (.int .u8 (p % 256)) := by rw [Hw6.out]; simp [go_sem, z8]
  have z9' : w6.cell? ⟨w.heap.size + 1, 9, none⟩ = some (.int .u8 (q / 256 % 256)) := by rw [Hw6.out]; simp [go_sem, z9]
  have z10' : w6.cell? ⟨w.heap.size + 1, 10, none⟩ = some (.int .u8 (q % 256)) := by rw [Hw6.out]; simp [go_sem, z10]
  have z11' : w6.cell? ⟨w.heap.size + 1, 11, none⟩ = some (.int .u8 0) := by rw [Hw6.out]; simp [go_sem, z11]
  have z12' : w6.cell? ⟨w.heap.size + 1, 12, none⟩ = some (.int .u8 0) := by rw [Hw6.out]; simp [go_sem, z12]
  have fw6 : ∀ j, w6.frozen? ⟨w.heap.size + 1, j, none⟩ = false := fun j => by rw [Hw6.out]; simp [go_sem, fw5]
  have bw6 : Below w.heap.size w w6 := by rw [Hw6.out]; repeat (first | exact bw5 | exact bw5.drew | (refine Below.setCell ?_ (Nat.le_succ _) _))
  clear s3 s4 z0 z1 z2 z3 z4 z5 z6 z7 z8 z9 z10 z11 z12 fw5
  have s4 := s4'; clear s4'
  have z0 := z0'; clear z0'
  have z1 := z1'; clear z1'
  have z2 := z2'; clear z2'
  have z3 := z3'; clear z3'
  have z4 := z4'; clear z4'
  have z5 := z5'; clear z5'
  have z6 := z6'; clear z6'
  have z7 := z7'; clear z7'
  have z8 := z8'; clear z8'
  have z9 := z9'; clear z9'
  have z10 := z10'; clear z10'
  have z11 := z11'; clear z11'
  have z12 := z12'; clear z12'
  go_still_tail 5, (by kernel_rfl)
  change wpList _ _ _ _ _ w6.drew
  go_wp2_with (go_at_call 23; refine (write2 _ _ _ _ _ (by omega) (by omega) (by go_simp) (by go_simp) (by go_simp) (by go_simp)).mono ?_; rintro e w7 ⟨rfl, hw⟩; have Hw7 := hid hw; clear hw)
  have z0' : w7.cell? ⟨w.heap.size + 1, 0, none⟩ = some (.int .u8 (a / 256 / 256 / 256)) := by rw [Hw7.out]; simp [go_sem, z0]
  have z1' : w7.cell? ⟨w.heap.size + 1, 1, none⟩ = some (.int .u8 (a / 256 / 256 % 256)) := by rw [Hw7.out]; simp [go_sem, z1]
  have z2' : w7.cell? ⟨w.heap.size + 1, 2, none⟩ = some (.int .u8 (a / 256 % 256)) := by rw [Hw7.out]; simp [go_sem, z2]
  have z3' : w7.cell? ⟨w.heap.size + 1, 3, none⟩ = some (.int .u8 (a % 256)) := by rw [Hw7.out]; simp [go_sem, z3]
  have z4' : w7.cell? ⟨w.heap.size + 1, 4, none⟩ = some (.int .u8 (b / 256 / 256 / 256)) := by rw [Hw7.out]; simp [go_sem, z4]
  have z5' : w7.cell? ⟨w.heap.size + 1, 5, none⟩ = some (.int .u8 (b / 256 / 256 % 256)) := by rw [Hw7.out]; simp [go_sem, z5]
  have z6' : w7.cell? ⟨w.heap.size + 1, 6, none⟩ = some (.int .u8 (b / 256 % 256)) := by rw [Hw7.out]; simp [go_sem, z6]
  have z7' : w7.cell? ⟨w.heap.size + 1, 7, none⟩ = some (.int .u8 (b % 256)) := by rw [Hw7.out]; simp [go_sem, z7]
  have z8' : w7.cell? ⟨w.heap.size + 1, 8, none⟩ = some (.int .u8 (p % 256)) := by rw [Hw7.out]; simp [go_sem, z8]
  have z9' : w7.cell? ⟨w.heap.size + 1, 9, none⟩ = some (.int .u8 (q / 256 % 256)) := by rw [Hw7.out]; simp [go_sem, z9]
  have z10' : w7.cell? ⟨w.heap.size + 1, 10, none⟩ = some (.int .u8 (q % 256)) := by rw [Hw7.out]; simp [go_sem, z10]
  have z11' : w7.cell? ⟨w.heap.size + 1, 11, none⟩ = some (.int .u8 (r / 256 % 256)) := by rw [Hw7.out]; simp [go_sem, z11]
  have z12' : w7.cell? ⟨w.heap.size + 1, 12, none⟩ = some (.int .u8 (r % 256)) := by rw [Hw7.out]; simp [go_sem, z12]
  have bw7 : Below w.heap.size w w7 := by rw [Hw7.out]; repeat (first | exact bw6 | exact bw6.drew | (refine Below.setCell ?_ (Nat.le_succ _) _))
  clear s4 z0 z1 z2 z3 z4 z5 z6 z7 z8 z9 z10 z11 z12 fw6
  have z0 := z0'; clear z0'
  have z1 := z1'; clear z1'
  have z2 := z2'; clear z2'
  have z3 := z3'; clear z3'
  have z4 := z4'; clear z4'
  have z5 := z5'; clear z5'
  have z6 := z6'; clear z6'
  have z7 := z7'; clear z7'
  have z8 := z8'; clear z8'
  have z9 := z9'; clear z9'
  have z10 := z10'; clear z10'
  have z11 := z11'; clear z11'
  have z12 := z12'; clear z12'
  go_ret
  refine ⟨w.heap.size + 1, rfl, ?_, bw7⟩
  rw [HB.out]
  refine ⟨rfl, fun _ => ⟨_, _, rfl, ?_, ?_⟩⟩
  · have := bw7.size
    rw [Hw7.out, Hw6.out, Hw5.out, Hw4.out, Hw3.out, HW.out]
    simp
  · intro i x hx
    rw [Nat.zero_add]
    match i, hx with
    | 0, hx => obtain rfl := Option.some.inj hx; rw [z0, byt_val]; congr 2; omega
    | 1, hx => obtain rfl := Option.some.inj hx; rw [z1, byt_val]; congr 2; omega
    | 2, hx => obtain rfl := Option.some.inj hx; rw [z2, byt_val]
    | 3, hx => obtain rfl := Option.some.inj hx; rw [z3, byt_val]
    | 4, hx => obtain rfl := Option.some.inj hx; rw [z4, byt_val]; congr 2; omega
    | 5, hx => obtain rfl := Option.some.inj hx; rw [z5, byt_val]; congr 2; omega
    | 6, hx => obtain rfl := Option.some.inj hx; rw [z6, byt_val]
    | 7, hx => obtain rfl := Option.some.inj hx; rw [z7, byt_val]
    | 8, hx => obtain rfl := Option.some.inj hx; rw [z8, byt_val]
    | 9, hx => obtain rfl := Option.some.inj hx; rw [z9, byt_val]
    | 10, hx => obtain rfl := Option.some.inj hx; rw [z10, byt_val]
    | 11, hx => obtain rfl := Option.some.inj hx; rw [z11, byt_val]
    | 12, hx => obtain rfl := Option.some.inj hx; rw [z12, byt_val]

theorem bytes_all : BytesSpec 11 := by
  intro t hf w
  cases h : t.ok with
  | true =>
    refine (bytes_good t hf h w).mono fun e w' ⟨g, h1, h2, h3⟩ => ?_
    rw [bytes_len h]
    exact ⟨_, 13, h1, Nat.le_refl _, h2, h3⟩
  | false =>
    refine (bytes_not t h w).mono fun e w' ⟨h1, h2⟩ => ?_
    rw [bytes_no h]
    exact ⟨none, 0, h1, Nat.le_refl _, rbyt_nil _ _ _, h2⟩
theorem read_no (A : Option Addr) (n c : Nat) (w : World) (h : n ≠ 13) : Calls Try.prog 12 #[.slice A n c] w fun e w' =>
    e = .returned (.tuple #[.agg #[.int .u32 0, .int .u32 0, .int .i64 0, .int .i64 0, .int .i64 0], .int .i64 2]) ∧ Below w.heap.size w w' := by
  have t1 : ((n : Int) == 13) = false := by simp; omega
  have t2 : ((n : Int) != 13) = true := by simp; omega
  clear h
  go_enter Try.func12, Try.ntmps12
  go_wp2_with fail
  refine bodyPost_ret (v := .tuple #[.agg #[.int .u32 0, .int .u32 0, .int .i64 0, .int .i64 0, .int .i64 0], .int .i64 2]) (by simp [results, Try.results12, go_sem]) rfl ⟨rfl, ?_⟩
  repeat (first | exact Below.refl _ _ | apply Below.drew | (refine Below.setCell ?_ (Nat.le_refl _) _) | (refine Below.alloc ?_ (Nat.le_refl _) _))
theorem be2_lt (x y : UInt8) : 0 ≤ be2 x y ∧ be2 x y < 65536 := by
  have := UInt8.toNat_lt x; have := UInt8.toNat_lt y
  unfold be2; omega
theorem read_yes (b off c : Nat) (x0 x1 x2 x3 x4 x5 x6 x7 x8 x9 x10 x11 x12 : UInt8) (w : World) (h13 : 13 ≤ c)
    (c0 : w.cell? ⟨b, off, none⟩ = some (.int .u8 (x0.toNat : Int))) (c1 : w.cell? ⟨b, off + 1, none⟩ = some (.int .u8 (x1.toNat : Int))) (c2 : w.cell? ⟨b, off + 2, none⟩ = some (.int .u8 (x2.toNat : Int))) (c3 : w.cell? ⟨b, off + 3, none⟩ = some (.int .u8 (x3.toNat : Int)))
    (c4 : w.cell? ⟨b, off + 4, none⟩ = some (.int .u8 (x4.toNat : Int))) (c5 : w.cell? ⟨b, off + 5, none⟩ = some (.int .u8 (x5.toNat : Int))) (c6 : w.cell? ⟨b, off + 6, none⟩ = some (.int .u8 (x6.toNat : Int))) (c7 : w.cell? ⟨b, off + 7, none⟩ = some (.int .u8 (x7.toNat : Int)))
    (c8 : w.cell? ⟨b, off + 8, none⟩ = some (.int .u8 (x8.toNat : Int))) (c9 : w.cell? ⟨b, off + 9, none⟩ = some (.int .u8 (x9.toNat : Int))) (c10 : w.cell? ⟨b, off + 10, none⟩ = some (.int .u8 (x10.toNat : Int))) (c11 : w.cell? ⟨b, off + 11, none⟩ = some (.int .u8 (x11.toNat : Int)))
    (c12 : w.cell? ⟨b, off + 12, none⟩ = some (.int .u8 (x12.toNat : Int))) (hb : b < w.heap.size) :
    Calls Try.prog 12 #[.slice (some ⟨b, off, none⟩) 13 c] w fun e w' => e = .returned (.tuple #[.agg #[.int .u32 (be4 x0 x1 x2 x3), .int .u32 (be4 x4 x5 x6 x7), .int .i64 (x8.toNat : Int), .int .i64 (be2 x9 x10), .int .i64 (be2 x11 x12)], .int .i64 0]) ∧ Below w.heap.size w w' := by
  have l4 : (4 : Int) ≤ c := by omega
  have l8 : (8 : Int) ≤ c := by omega
  have l9 : (9 : Int) ≤ c := by omega
  have l11 : (11 : Int) ≤ c := by omega
  have l13 : (13 : Int) ≤ c := by omega
  have n4 : ¬ (c = 4) := by omega
  have n8 : ¬ (c = 8) := by omega
  have n9 : ¬ (c = 9) := by omega
  have n11 : ¬ (c = 11) := by omega
  have n0 : ¬ (c = 0) := by omega
  clear h13
  go_enter Try.func12, Try.ntmps12
  go_wp2_with fail
  obtain ⟨w2, hW⟩ : ∃ w2, w2 = w.alloc (.cells #[.int .u32 0, .int .u32 0, .int .i64 0, .int .i64 0, .int .i64 0] 24) := ⟨_, rfl⟩
  have HW := hid hW
  clear hW
  rw [← HW.out]
  have hk : ∀ j, w2.cell? ⟨b, j, none⟩ = w.cell? ⟨b, j, none⟩ := fun j => by rw [HW.out]; exact World.cell?_alloc_lt w _ _ hb
  have f0 : ∀ j, w2.frozen? ⟨w.heap.size, j, none⟩ = false := fun j => by rw [HW.out]; simp [go_sem]
  have s0 : w2.cell? ⟨w.heap.size, 0, none⟩ = some (.int .u32 0) := by rw [HW.out]; simp [go_sem]
  have s1 : w2.cell? ⟨w.heap.size, 1, none⟩ = some (.int .u32 0) := by rw [HW.out]; simp [go_sem]
  have s2 : w2.cell? ⟨w.heap.size, 2, none⟩ = some (.int .i64 0) := by rw [HW.out]; simp [go_sem]
  have s3 : w2.cell? ⟨w.heap.size, 3, none⟩ = some (.int .i64 0) := by rw [HW.out]; simp [go_sem]
  have s4 : w2.cell? ⟨w.heap.size, 4, none⟩ = some (.int .i64 0) := by rw [HW.out]; simp [go_sem]
  refine wp_region_still_tail 19 (by kernel_rfl) (by kernel_rfl) ?_
  simp only [List.take_succ_cons, List.take_zero, List.drop_succ_cons, List.drop_zero]
  have m0 := (hk off).trans c0
  have m1 := (hk (off + 1)).trans c1
  have m2 := (hk (off + 2)).trans c2
  have m3 := (hk (off + 3)).trans c3
  have m4 := (hk (off + 4)).trans c4
  have m5 := (hk (off + 5)).trans c5
  have m6 := (hk (off + 6)).trans c6
  have m7 := (hk (off + 7)).trans c7
  have m8 := (hk (off + 8)).trans c8
  have m9 := (hk (off + 9)).trans c9
  have m10 := (hk (off + 10)).trans c10
  have m11 := (hk (off + 11)).trans c11
  have m12 := (hk (off + 12)).trans c12
  have C0 := number4 b off c x0 x1 x2 x3 w2.drew m0 m1 m2 m3
  have C1 := number4 b (off + 4) (c - 4) x4 x5 x6 x7 w2.drew m4 m5 m6 m7
  have C2 := number1 b (off + 8) (c - 8) x8 w2.drew m8
  have C3 := number2 b (off + 9) (c - 9) x9 x10 w2.drew m9 m10
  have C4 := number2 b (off + 11) (c - 11) x11 x12 w2.drew m11 m12
  have D0 := hid C0
  have D1 := hid C1
  have D2 := hid C2
  have D3 := hid C3
  have D4 := hid C4
  clear C0 C1 C2 C3 C4 hk c0 c1 c2 c3 c4 c5 c6 c7 c8 c9 c10 c11 c12 m0 m1 m2 m3 m4 m5 m6 m7 m8 m9 m10 m11 m12
  have y8 : x8.toNat < 256 := UInt8.toNat_lt x8
  have b1 := be2_lt x9 x10
  have b2 := be2_lt x11 x12
  repeat still_step
  still_call D0.out
  repeat still_step
  still_call D1.out
  repeat still_step
  still_call D2.out
  repeat still_step
  still_call D3.out
  repeat still_step
  still_call D4.out
  repeat still_step
  refine wpStill_nil ?_
  change wpList _ _ _ _ _ w2.drew
  go_wp2_with fail
  refine bodyPost_ret (v := .tuple #[.agg #[.int .u32 (be4 x0 x1 x2 x3), .int .u32 (be4 x4 x5 x6 x7), .int .i64 (x8.toNat : Int), .int .i64 (be2 x9 x10), .int .i64 (be2 x11 x12)], .int .i64 0]) (by simp [results, Try.results12, go_sem, s0, s1, s2, s3, s4]) rfl ⟨rfl, ?_⟩
  have hb2 : Below w.heap.size w w2 := by
    rw [HW.out]
    exact (Below.refl _ _).alloc (Nat.le_refl _) _
  exact (((((hb2.setCell (p := ⟨w.heap.size, 0, none⟩) (Nat.le_refl _) _).setCell (p := ⟨w.heap.size, 1, none⟩) (Nat.le_refl _) _).setCell (p := ⟨w.heap.size, 2, none⟩) (Nat.le_refl _) _).setCell (p := ⟨w.heap.size, 3, none⟩) (Nat.le_refl _) _).setCell (p := ⟨w.heap.size, 4, none⟩) (Nat.le_refl _) _).drew
theorem read_all : ReadSpec 12 := by
  intro A n c bs w hcap hr
  by_cases h : n = 13
  · subst h
    have hl := hr.1
    obtain ⟨b, off, rfl, hb, hc⟩ := hr.2 (by omega)
    match bs, hl with
    | [x0, x1, x2, x3, x4, x5, x6, x7, x8, x9, x10, x11, x12], _ =>
      have h1 : readT [x0, x1, x2, x3, x4, x5, x6, x7, x8, x9, x10, x11, x12] = ⟨be4 x0 x1 x2 x3, be4 x4 x5 x6 x7, (x8.toNat : Int), be2 x9 x10, be2 x11 x12⟩ := rfl
      have h2 : readE [x0, x1, x2, x3, x4, x5, x6, x7, x8, x9, x10, x11, x12] = 0 := rfl
      rw [h1, h2]
      exact read_yes b off c x0 x1 x2 x3 x4 x5 x6 x7 x8 x9 x10 x11 x12 w hcap (hc 0 _ rfl) (hc 1 _ rfl) (hc 2 _ rfl) (hc 3 _ rfl) (hc 4 _ rfl) (hc 5 _ rfl) (hc 6 _ rfl) (hc 7 _ rfl) (hc 8 _ rfl) (hc 9 _ rfl) (hc 10 _ rfl) (hc 11 _ rfl) (hc 12 _ rfl) hb
  · have h1 : readT bs = ⟨0, 0, 0, 0, 0⟩ := by unfold readT; rw [if_neg (by rw [hr.1]; exact h)]
    have h2 : readE bs = 2 := by unfold readE; rw [if_neg (by rw [hr.1]; exact h)]
    rw [h1, h2]
    exact read_no A n c w h
end Go.Proofs.Ytmhedmjealggfaa
