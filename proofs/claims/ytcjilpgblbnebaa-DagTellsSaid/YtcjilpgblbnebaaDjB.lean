/- slices.Repeat of one number. -/
import Derived.Test.YtcjilpgblbnebaaSpB
import Derived.Laws.CopyOwn
import Derived.Deep.RegionLaw
namespace Go.Proofs.Ytcjilpgblbnebaa
open Go.RowKit
set_option maxHeartbeats 3200000
set_option maxRecDepth 100000
theorem wraps_u64 (n : Int) (h₀ : 0 ≤ n) (h₁ : n < 2 ^ 64) : IntKind.u64.wrap n = n := by rw [IntKind.wrap_u64]; omega
theorem u64_mask (i : Nat) (hi : i ≤ 64) (m : Int) (hm : m = 2 ^ i - 1) (x : Int) (h₀ : 0 ≤ x) (h₁ : x < 18446744073709551616) : bits .and .u64 x m = x % 2 ^ i := by
  rw [hm]; exact bits_mask .u64 64 (by decide) wraps_u64 i hi x h₀ (by simpa using h₁)
theorem mul64_any (N : Nat) (hN : N ≤ 40) (w : World) : Calls Try.prog 46 #[.int .u64 1, .int .u64 (N : Int)] w fun e w' => e = .returned (.tuple #[.int .u64 0, .int .u64 (N : Int)]) ∧ w = w' := by
  have m0 : bits .and .u64 0 4294967295 = 0 := by rw [u64_mask 32 (by decide) _ (by decide) _ (by decide) (by decide)]; rfl
  have m1 : bits .and .u64 1 4294967295 = 1 := by rw [u64_mask 32 (by decide) _ (by decide) _ (by decide) (by decide)]; rfl
  have mN : bits .and .u64 (N : Int) 4294967295 = (N : Int) := by
    rw [u64_mask 32 (by decide) _ (by decide) _ (by omega) (by omega)]
    exact Int.emod_eq_of_lt (by omega) (by omega)
  have dN : (N : Int) / 4294967296 = 0 := Int.ediv_eq_zero_of_lt (by omega) (by omega)
  have wN : IntKind.u64.wrap (N : Int) = (N : Int) := wraps_u64 _ (by omega) (by omega)
  have w0 : IntKind.u64.wrap 0 = 0 := wraps_u64 _ (by omega) (by omega)
  go_enter Try.func46, Try.ntmps46
  go_wp2_with fail
  go_ret2
  exact ⟨rfl, rfl⟩
theorem mul_any (N : Nat) (hN : N ≤ 40) (w : World) : Calls Try.prog 31 #[.int .u64 1, .int .u64 (N : Int)] w fun e w' => e = .returned (.tuple #[.int .u64 0, .int .u64 (N : Int)]) ∧ w = w' := by
  have HM := hid (mul64_any N hN w)
  go_enter Try.func31, Try.ntmps31
  go_wp2_with (go_at_call 46; (with_reducible refine HM.out.mono ?_); rintro _ _ ⟨rfl, rfl⟩)
  go_ret2
  exact ⟨rfl, rfl⟩
/-- The row while it is filled. -/
def fil (x : Int) (N k : Nat) : List Int := List.replicate k x ++ List.replicate (N - k) 0
theorem fil_len {x : Int} {N k : Nat} (h : k ≤ N) : (fil x N k).length = N := by simp [fil]; omega
theorem fil_zero (x : Int) (N : Nat) : fil x N 0 = List.replicate N 0 := by simp [fil]
theorem fil_all (x : Int) (N : Nat) : fil x N N = List.replicate N x := by simp [fil]
theorem fil_splice {x : Int} {N k m : Nat} (h : k + m ≤ N) : splice (icells (fil x N k)) k (icells (List.replicate m x)) = icells (fil x N (k + m)) := by
  unfold splice icells fil
  rw [List.length_map, List.length_replicate, ← List.map_take, ← List.map_drop, ← List.map_append, ← List.map_append]
  congr 1
  rw [List.take_append_of_le_length (by simp), List.take_of_length_le (by simp), List.drop_append, List.drop_of_length_le (by simp), List.drop_replicate, List.length_replicate, List.nil_append, ← List.append_assoc, List.replicate_append_replicate]
  congr 2
  omega
theorem fil_get {x : Int} {N k j : Nat} (h : j < k) : (fil x N k)[j]? = some x := by
  unfold fil
  rw [List.getElem?_append_left (by simpa using h), List.getElem?_replicate, if_pos h]
theorem one_cells (l : List Int) : ∀ v ∈ icells l, v.oneCell' = true := by
  intro v hv
  simp only [icells, List.mem_map] at hv
  obtain ⟨_, _, rfl⟩ := hv
  rfl
theorem rep_src {w : World} {g : Nat} {x : Int} {m : Nat} (h : ∀ j, j < m → w.cell? ⟨g, j, none⟩ = some (.int .i64 x)) : ∀ j v, (icells (List.replicate m x))[j]? = some v → w.cell? ((⟨g, 0, none⟩ : Addr).add j) = some v := by
  intro j v hv
  rw [Go.WideShapes.add_plain, Nat.zero_add]
  simp only [icells, List.map_replicate, List.getElem?_replicate] at hv
  split at hv
  · rename_i hj
    rw [h j hj]
    exact hv
  · cases hv
theorem min_facts {k N : Nat} (h1 : 1 ≤ k) (h : k < N) : ∃ m, 1 ≤ m ∧ k + m ≤ N ∧ m ≤ k ∧ m = Nat.min k (N - k) := by
  rcases Nat.le_total k (N - k) with h2 | h2
  · exact ⟨k, h1, by omega, Nat.le_refl _, (Nat.min_eq_left h2).symm⟩
  · exact ⟨N - k, by omega, by omega, h2, (Nat.min_eq_right h2).symm⟩
theorem one_min {N : Nat} {x : Int} (h : 1 ≤ N) : (icells (List.replicate 1 x)).length = Nat.min 1 N := by
  rw [icells_len, List.length_replicate]
  exact (Nat.min_eq_left h).symm
theorem repeat_any (N b : Nat) (x : Int) (w : World) (hN0 : 1 ≤ N) (hN : N ≤ 40) (hb : b < w.heap.size) (hx : w.cell? ⟨b, 0, none⟩ = some (.int .i64 x)) :
    Calls Try.prog 22 #[.slice (some ⟨b, 0, none⟩) 1 1, .int .i64 (N : Int)] w fun e w' => ∃ G, e = .returned (.slice (some ⟨G, 0, none⟩) N N) ∧ w.heap.size ≤ G ∧ IRow w' G (List.replicate N x) ∧ Below w.heap.size w w' := by
  have HM := hid (mul_any N hN w)
  have t1 : decide ((N : Int) < 0) = false := by simp
  have t2 : decide ((9223372036854775807 : Int) < (N : Int)) = false := by simp; omega
  have wN : IntKind.u64.wrap (N : Int) = (N : Int) := wraps_u64 _ (by omega) (by omega)
  have wN' : IntKind.i64.wrap (N : Int) = (N : Int) := wraps_i64 _ (by omega) (by omega)
  obtain ⟨i5, hi, hz0, hz1, hz2⟩ := info_parts (show (Try.prog.info? 3).map (fun i => (i.zero, i.size, i.bytes)) = some (some (.int .i64 0), 1, 8) by kernel_rfl)
  have Ai := hid hi; have Az0 := hid hz0; have Az1 := hid hz1; have Az2 := hid hz2
  have Asz : Hid ((Try.prog.info? 3).map (·.size) = some 1) := by show _ = _; rw [hi]; simp [hz1]
  clear hi hz0 hz1 hz2
  have Hx := hid hx
  clear hx
  go_enter Try.func22, Try.ntmps22
  go_wp2_with (first
    | (go_at_call 31; (with_reducible refine HM.out.mono ?_); rintro _ _ ⟨rfl, rfl⟩)
    | (at_make; refine wpList_make_full _ rfl (.tmp 29) (.tmp 29) 33 rfl w.heap.size 3 i5 (.int .i64 0) 1 Try.underlying33 Ai.out Az0.out Az1.out _ _ _ _ N rfl rfl rfl rfl (by rw [Az2.out]; omega) (by unfold maxLen; omega) (Nat.le_refl _) ?_; intro w3 hown3 hg3; have HR3 := hid (IRow.made hown3); have b3 := grown_below hg3; clear hown3 hg3)
    | ((with_reducible refine wpList_copy_splice rfl (.tmp 31) (.tmp 32) 33 33 rfl 3 Try.underlying33 Asz.out (some ⟨w.heap.size, 0, none⟩) (some ⟨b, 0, none⟩) N N 1 1 rfl rfl w.heap.size 0 (icells (List.replicate N 0)) 3 ?c1 (icells (List.replicate 1 x)) ?c2 ?c3 ?c4 (one_cells _) w.heap.size w b3 (Nat.le_refl _) ?c5); (case c1 => exact HR3.out); (case c2 => exact one_min hN0); (case c3 => exact fun _ => ⟨rfl, _, rfl, rep_src (fun j hj => by obtain rfl : j = 0 := (by omega); exact (b3.cell (p := ⟨b, 0, none⟩) hb).trans Hx.out)⟩); (case c4 => simp [icells]; omega); intro w4 HR4 b4))
  have HI4 : Hid (IRow w4 w.heap.size (fil x N 1)) := by
    have := HR4.out
    rw [← fil_zero x N, fil_splice (by omega)] at this
    exact this
  clear HR3 HR4 b3
  go_loopw [8] (fun i wr => ∃ k : Nat, 1 ≤ k ∧ k ≤ N ∧ i = .int .i64 k ∧ Hid (IRow wr w.heap.size (fil x N k)) ∧ Below w.heap.size w wr) (fun i _ => N - (intOf i).toNat)
  case atStart => exact ⟨1, Nat.le_refl _, hN0, by simp [icells], HI4.out, b4⟩
  case round =>
    obtain ⟨k, hk1, hk, rfl, HI, hbw⟩ := hrel
    by_cases hlt : k < N
    · obtain ⟨m, hm0, hm1, hm2, hm3⟩ := min_facts hk1 hlt
      have Hm3 := hid hm3
      clear hm3
      have HS := hid (rep_src (w := wr) (g := w.heap.size) (x := x) (m := m) (fun j hj => HI.out.cell (fil_get (by omega))))
      have hif : (if N = k then (some ⟨w.heap.size, 0, none⟩ : Option Addr) else some ⟨w.heap.size, k, none⟩) = some ⟨w.heap.size, k, none⟩ := if_neg (by omega)
      have hnk : ¬N = k := by omega
      have HID : Hid (wr.drew.heap[w.heap.size]? = some (.cells (icells (fil x N k)).toArray 3 (0, 0))) := HI
      have hbd : Below w.heap.size w wr.drew := hbw.drew
      have HSD : Hid (∀ j v, (icells (List.replicate m x))[j]? = some v → wr.drew.cell? ((⟨w.heap.size, 0, none⟩ : Addr).add j) = some v) := HS
      go_wp2_with fail
      go_region_law (simp only [List.getElem_toArray, List.getElem_cons_succ, List.getElem_cons_zero]; refine step_copy_splice (by rfl) (.tmp 41) (.tmp 44) 33 33 (by rfl) 3 Try.underlying33 Asz.out (some ⟨w.heap.size, k, none⟩) (some ⟨w.heap.size, 0, none⟩) (N - k) (N - k) k N (by go_simp) (by go_simp) w.heap.size k (icells (fil x N k)) 3 HID.out (icells (List.replicate m x)) ?d2 ?d3 ?d4 (one_cells _) w.heap.size w hbd (Nat.le_refl _) ?d5; (case d2 => rw [icells_len, List.length_replicate]; exact Hm3.out); (case d3 => exact fun _ => ⟨rfl, _, rfl, HSD.out⟩); (case d4 => rw [icells_len, icells_len, List.length_replicate, fil_len hk]; exact hm1); intro w5 HR5 b5)
      have HI5 : Hid (IRow w5 w.heap.size (fil x N (k + m))) := by
        have := HR5.out
        rw [fil_splice hm1] at this
        exact this
      have hml : (icells (List.replicate m x)).length = m := by rw [icells_len, List.length_replicate]
      have hwk : IntKind.i64.wrap ((k : Int) + (m : Int)) = ((k + m : Nat) : Int) := by rw [wraps_i64 _ (by omega) (by omega)]; omega
      clear HI HID HR5
      simp only [List.getElem_toArray, List.getElem_cons_succ, List.getElem_cons_zero, Act.put, List.setIfInBounds_toArray, List.set_cons_succ, List.set_cons_zero]
      go_wp2_with fail
      go_roundw
      case rel => exact ⟨k + m, by omega, hm1, by rw [hml, hwk], HI5.out, b5⟩
      case measure => rw [hml, hwk]; clear hml hwk wN wN'; simp [intOf]; omega
    · obtain rfl : k = N := by omega
      go_wp2_with fail
      go_ret
      exact ⟨_, rfl, Nat.le_refl _, by rw [← fil_all]; exact HI.out, hbw⟩
end Go.Proofs.Ytcjilpgblbnebaa
