/- Cut out of DjA DjB DjC. -/
import Derived.Test.YtabgbhkpeeibaaaSpB
import Derived.Test.YtabgbhkpeeibaaaRgA
import Derived.Laws.CopyOwn
import Derived.Deep.RegionLaw
namespace Go.Proofs.Ytabgbhkpeeibaaa
open Go.RowKit
set_option maxHeartbeats 12800000
set_option maxRecDepth 100000
/-- d: what is settled; S: what waits; R: the edges that are still to be looked at. -/
structure DInv (nd : Nat) (l : List Lnk) (dn : List Bool) (s : Nat) (d : List Int) (S : List (Int × Int)) (R : List Int) : Prop where
  len : d.length = nd
  low : ∀ v : Nat, v < nd → -1 ≤ dAt d (v : Int)
  src : 0 ≤ dAt d (s : Int) → dAt d (s : Int) = 0
  via : ∀ v : Nat, v < nd → v ≠ s → 0 ≤ dAt d (v : Int) → ∃ k, k < 2 * l.length ∧ isDn dn (k / 2) = false ∧ tov l k = (v : Int) ∧ 0 ≤ dAt d (frm l k) ∧ dAt d (v : Int) = dAt d (frm l k) + met l k
  fst : dAt d (s : Int) < 0 → (0, (s : Int)) ∈ S ∧ ∀ v : Nat, v < nd → dAt d (v : Int) < 0
  wait : ∀ p ∈ S, ∃ b : Nat, b < nd ∧ p.2 = (b : Int) ∧ 0 ≤ p.1 ∧ p.1 ≤ (lab d : Int) * 16777216 ∧ (∀ v : Nat, v < nd → dAt d (v : Int) ≤ p.1) ∧
    (p = (0, (s : Int)) ∨ ∃ k, k < 2 * l.length ∧ isDn dn (k / 2) = false ∧ tov l k = (b : Int) ∧ 0 ≤ dAt d (frm l k) ∧ p.1 = dAt d (frm l k) + met l k)
  top : ∀ v : Nat, v < nd → 0 ≤ dAt d (v : Int) → dAt d (v : Int) + 16777216 ≤ (lab d : Int) * 16777216
  clo : ∀ k, k < 2 * l.length → isDn dn (k / 2) = false → 0 ≤ dAt d (frm l k) → (k : Int) ∉ R → (0 ≤ dAt d (tov l k) ∧ dAt d (tov l k) ≤ dAt d (frm l k) + met l k) ∨ (dAt d (frm l k) + met l k, tov l k) ∈ S
theorem dAt_rep (nd v : Nat) : dAt (List.replicate nd (-1 : Int)) (v : Int) = -1 := by
  unfold dAt
  rw [List.getD_eq_getElem?_getD, Int.toNat_natCast]
  rcases Nat.lt_or_ge v nd with h | h
  · rw [List.getElem?_replicate, if_pos h]; rfl
  · rw [List.getElem?_eq_none (by simpa using h)]; rfl
theorem lab_rep (nd : Nat) : lab (List.replicate nd (-1 : Int)) = 0 := by
  induction nd with
  | zero => rfl
  | succ n ih => rw [List.replicate_succ]; simp only [lab]; rw [ih]; rfl
theorem DInv.start {nd : Nat} {l : List Lnk} {dn : List Bool} {s : Nat} (hg : GOk nd l) (hs : s < nd) : DInv nd l dn s (List.replicate nd (-1)) [(0, (s : Int))] [] := by
  refine ⟨by simp, fun v _ => by rw [dAt_rep]; omega, fun h => by rw [dAt_rep] at h; omega, fun v _ _ h => by rw [dAt_rep] at h; omega, fun _ => ⟨by simp, fun v _ => by rw [dAt_rep]; omega⟩, fun p hp => ?_, fun v _ h => by rw [dAt_rep] at h; omega, fun k hk _ h => ?_⟩
  · simp only [List.mem_singleton] at hp
    subst hp
    exact ⟨s, hs, rfl, by simp, by rw [lab_rep]; simp, fun v _ => by rw [dAt_rep]; simp, .inl rfl⟩
  · obtain ⟨a, b, x, _, _, hf, _⟩ := edge_facts hg hk
    rw [hf, dAt_rep] at h; omega
theorem DInv.perm {nd : Nat} {l : List Lnk} {dn : List Bool} {s : Nat} {d : List Int} {S S' : List (Int × Int)} {R : List Int} (h : DInv nd l dn s d S R) (hp : S'.Perm S) : DInv nd l dn s d S' R :=
  ⟨h.len, h.low, h.src, h.via, fun h0 => ⟨hp.mem_iff.2 (h.fst h0).1, (h.fst h0).2⟩, fun p hm => h.wait p (hp.mem_iff.1 hm), h.top, fun k hk hu h0 hr => (h.clo k hk hu h0 hr).imp id (fun hm => hp.mem_iff.2 hm)⟩
theorem DInv.done {nd : Nat} {l : List Lnk} {dn : List Bool} {s : Nat} {d : List Int} (h : DInv nd l dn s d [] []) : DistOk nd l dn s d := by
  refine ⟨h.len, h.src ?_, h.low, fun k hk hu h0 => ?_, h.via⟩
  · rcases Int.lt_or_le (dAt d (s : Int)) 0 with h0 | h0
    · have := (h.fst h0).1; simp at this
    · exact h0
  · rcases h.clo k hk hu h0 (by simp) with h1 | h1
    · exact h1
    · simp at h1
/-- A node that has been settled comes up again. -/
theorem DInv.skip {nd : Nat} {l : List Lnk} {dn : List Bool} {s : Nat} {d : List Int} {S : List (Int × Int)} {x : Int} {b : Nat} (h : DInv nd l dn s d ((x, (b : Int)) :: S) []) (h0 : 0 ≤ dAt d (b : Int)) (hb : b < nd) : DInv nd l dn s d S [] := by
  have hw := h.wait (x, (b : Int)) (by simp)
  obtain ⟨_, _, _, _, _, hx, _⟩ := hw
  have hxb := hx b hb
  simp only at hxb
  refine ⟨h.len, h.low, h.src, h.via, fun hs => ?_, fun p hp => h.wait p (by simp [hp]), h.top, fun k hk hu hf hr => ?_⟩
  · have := (h.fst hs).2 b hb; omega
  · rcases h.clo k hk hu hf hr with h1 | h1
    · exact .inl h1
    · rcases List.mem_cons.1 h1 with h2 | h2
      · simp only [Prod.mk.injEq] at h2
        obtain ⟨h3, h4⟩ := h2
        rw [h4]
        exact .inl ⟨h0, by omega⟩
      · exact .inr h2
/-- A node is settled. -/
theorem DInv.take {nd : Nat} {l : List Lnk} {dn : List Bool} {s : Nat} {d : List Int} {S : List (Int × Int)} {x : Int} {b : Nat} (hg : GOk nd l) (h : DInv nd l dn s d ((x, (b : Int)) :: S) []) (h0 : dAt d (b : Int) < 0) (hb : b < nd) (hm : ∀ q ∈ S, x ≤ q.1) :
    DInv nd l dn s (d.set b x) S (outS l (b : Int) (2 * l.length)) ∧ 0 ≤ x ∧ x ≤ 671088640 ∧ lab (d.set b x) = lab d + 1 ∧ ∀ v : Nat, v < nd → dAt (d.set b x) (v : Int) ≤ x := by
  obtain ⟨b', _, hbb, hx0, hx1, hx2, hx3⟩ := h.wait (x, (b : Int)) (by simp)
  simp only at hbb hx0 hx1 hx2 hx3
  obtain rfl : b' = b := by omega
  have hbl : b' < d.length := by rw [h.len]; exact hb
  have hv : ∀ v : Nat, dAt (d.set b' x) (v : Int) = if v = b' then x else dAt d (v : Int) := fun v => dAt_set hbl
  have hlab : lab (d.set b' x) = lab d + 1 := by
    rw [lab_set (dAt_get hbl) hx0, if_pos h0]
  have hll := lab_le (d.set b' x)
  rw [List.length_set, h.len] at hll
  have hnd := hg.2.2.1
  -- an edge that leads here from a settled node
  have hsettled : ∀ {a : Nat}, a < nd → 0 ≤ dAt d (a : Int) → 0 ≤ dAt d (s : Int) := by
    intro a ha h1
    rcases Int.lt_or_le (dAt d (s : Int)) 0 with h2 | h2
    · have := (h.fst h2).2 a ha; omega
    · exact h2
  have hkeep : ∀ {a : Nat}, 0 ≤ dAt d (a : Int) → dAt (d.set b' x) (a : Int) = dAt d (a : Int) := by
    intro a h1
    rw [hv, if_neg (by rintro rfl; omega)]
  refine ⟨⟨by rw [List.length_set]; exact h.len, fun v hvn => ?_, fun hs => ?_, fun v hvn hvs hv0 => ?_, fun hs => ?_, fun p hp => ?_, fun v hvn hv0 => ?_, fun k hk hu hf hr => ?_⟩, hx0, by omega, hlab, fun v hvn => ?_⟩
  · rw [hv]; split; omega; exact h.low v hvn
  · rw [hv] at hs ⊢
    split
    · rename_i hsb
      subst hsb
      rcases hx3 with hx3 | ⟨k, hk, hu, ht, hf, he⟩
      · simp only [Prod.mk.injEq] at hx3; exact hx3.1
      · obtain ⟨a, _, _, _, _, hfa, _, _, ha, _⟩ := edge_facts hg hk
        rw [hfa] at hf
        have := hsettled ha hf; omega
    · rename_i hsb
      rw [if_neg hsb] at hs
      exact h.src hs
  · rw [hv] at hv0
    by_cases hvb : v = b'
    · subst hvb
      rw [hv, if_pos rfl]
      rcases hx3 with hx3 | ⟨k, hk, hu, ht, hf, he⟩
      · simp only [Prod.mk.injEq] at hx3; omega
      · obtain ⟨a, _, _, _, _, hfa, _, _, ha, _⟩ := edge_facts hg hk
        rw [hfa] at hf he
        refine ⟨k, hk, hu, ht, ?_, ?_⟩
        · rw [hfa, hkeep hf]; exact hf
        · rw [hfa, hkeep hf]; exact he
    · rw [if_neg hvb] at hv0
      rw [hv, if_neg hvb]
      obtain ⟨k, hk, hu, ht, hf, he⟩ := h.via v hvn hvs hv0
      obtain ⟨a, _, _, _, _, hfa, _, _, ha, _⟩ := edge_facts hg hk
      rw [hfa] at hf he
      refine ⟨k, hk, hu, ht, ?_, ?_⟩
      · rw [hfa, hkeep hf]; exact hf
      · rw [hfa, hkeep hf]; exact he
  · exfalso
    rw [hv] at hs
    by_cases hsb : s = b'
    · rw [if_pos hsb] at hs; omega
    · rw [if_neg hsb] at hs
      rcases hx3 with hx3 | ⟨k, hk, hu, ht, hf, he⟩
      · simp only [Prod.mk.injEq] at hx3; omega
      · obtain ⟨a, _, _, _, _, hfa, _, _, ha, _⟩ := edge_facts hg hk
        rw [hfa] at hf
        have := hsettled ha hf; omega
  · obtain ⟨c, hc, hpc, hp0, hp1, hp2, hp3⟩ := h.wait p (by simp [hp])
    have hxp := hm p hp
    refine ⟨c, hc, hpc, hp0, by rw [hlab]; omega, fun v hvn => ?_, ?_⟩
    · rw [hv]; split; exact hxp; exact hp2 v hvn
    · rcases hp3 with hp3 | ⟨k, hk, hu, ht, hf, he⟩
      · exact .inl hp3
      · obtain ⟨a, _, _, _, _, hfa, _, _, ha, _⟩ := edge_facts hg hk
        rw [hfa] at hf he
        refine .inr ⟨k, hk, hu, ht, ?_, ?_⟩
        · rw [hfa, hkeep hf]; exact hf
        · rw [hfa, hkeep hf]; exact he
  · rw [hv] at hv0 ⊢
    rw [hlab]
    split
    · omega
    · rename_i hvb
      rw [if_neg hvb] at hv0
      have := h.top v hvn hv0
      omega
  · obtain ⟨a, c, _, _, hends, hfa, hto, hme, ha, hc, _, hm1, _⟩ := edge_facts hg hk
    rw [hfa] at hf ⊢
    rw [hto]
    have hne : a ≠ b' := by
      rintro rfl
      exact hr (mem_outS.2 ⟨k, hk, rfl, by rw [hends]⟩)
    rw [hv a, if_neg hne] at hf ⊢
    have hq := h.clo k hk hu (by rw [hfa]; exact hf) (by simp)
    rw [hfa, hto] at hq
    rcases hq with ⟨h1, h2⟩ | h1
    · rw [hkeep h1]; exact .inl ⟨h1, h2⟩
    · rcases List.mem_cons.1 h1 with h2 | h2
      · simp only [Prod.mk.injEq] at h2
        obtain ⟨h3, h4⟩ := h2
        obtain rfl : c = b' := by omega
        rw [hv, if_pos rfl]
        exact .inl ⟨hx0, by omega⟩
      · exact .inr h2
  · rw [hv]; split; omega; exact hx2 v hvn
/-- An edge out of the node that has just been settled: its end waits from now on. -/
theorem DInv.edge {nd : Nat} {l : List Lnk} {dn : List Bool} {s : Nat} {d : List Int} {S : List (Int × Int)} {R : List Int} {k a b : Nat} {m x : Int} (h : DInv nd l dn s d S ((k : Int) :: R)) (hk : k < 2 * l.length) (hu : isDn dn (k / 2) = false)
    (hf : frm l k = (a : Int)) (ht : tov l k = (b : Int)) (hm : met l k = m) (ha : a < nd) (hb : b < nd) (hm1 : 1 ≤ m) (hm2 : m ≤ 16777216) (hx : dAt d (a : Int) = x) (h0 : 0 ≤ x) (hle : ∀ v : Nat, v < nd → dAt d (v : Int) ≤ x) : DInv nd l dn s d ((x + m, (b : Int)) :: S) R := by
  refine ⟨h.len, h.low, h.src, h.via, fun hs => ⟨by simp [(h.fst hs).1], (h.fst hs).2⟩, fun p hp => ?_, h.top, fun j hj hju hj0 hr => ?_⟩
  · rcases List.mem_cons.1 hp with rfl | hp
    · have := h.top a ha (by omega)
      exact ⟨b, hb, rfl, by simp only; omega, by simp only; omega, fun v hv => by have := hle v hv; simp only; omega, .inr ⟨k, hk, hu, ht, by rw [hf]; omega, by rw [hf, hx, hm]⟩⟩
    · exact h.wait p hp
  · by_cases hjk : j = k
    · subst hjk
      rw [hf, ht, hx, hm]
      exact .inr (by simp)
    · rcases h.clo j hj hju hj0 (by simp only [List.mem_cons, not_or]; exact ⟨by omega, hr⟩) with h1 | h1
      · exact .inl h1
      · exact .inr (by simp [h1])
theorem DInv.shut {nd : Nat} {l : List Lnk} {dn : List Bool} {s : Nat} {d : List Int} {S : List (Int × Int)} {R : List Int} {k : Nat} (h : DInv nd l dn s d S ((k : Int) :: R)) (hu : isDn dn (k / 2) = true) : DInv nd l dn s d S R := by
  refine ⟨h.len, h.low, h.src, h.via, h.fst, h.wait, h.top, fun j hj hju hj0 hr => ?_⟩
  by_cases hjk : j = k
  · subst hjk; rw [hu] at hju; cases hju
  · exact h.clo j hj hju hj0 (by simp only [List.mem_cons, not_or]; exact ⟨by omega, hr⟩)
theorem wraps_u64 (n : Int) (h₀ : 0 ≤ n) (h₁ : n < 2 ^ 64) : IntKind.u64.wrap n = n := by rw [IntKind.wrap_u64]; omega
theorem u64_mask (i : Nat) (hi : i ≤ 64) (m : Int) (hm : m = 2 ^ i - 1) (x : Int) (h₀ : 0 ≤ x) (h₁ : x < 18446744073709551616) : bits .and .u64 x m = x % 2 ^ i := by
  rw [hm]; exact bits_mask .u64 64 (by decide) wraps_u64 i hi x h₀ (by simpa using h₁)
theorem mul64_any (N : Nat) (hN : N ≤ 40) (w : World) : Calls Try.prog 72 #[.int .u64 1, .int .u64 (N : Int)] w fun e w' => e = .returned (.tuple #[.int .u64 0, .int .u64 (N : Int)]) ∧ w = w' := by
  have m0 : bits .and .u64 0 4294967295 = 0 := by rw [u64_mask 32 (by decide) _ (by decide) _ (by decide) (by decide)]; rfl
  have m1 : bits .and .u64 1 4294967295 = 1 := by rw [u64_mask 32 (by decide) _ (by decide) _ (by decide) (by decide)]; rfl
  have mN : bits .and .u64 (N : Int) 4294967295 = (N : Int) := by
    rw [u64_mask 32 (by decide) _ (by decide) _ (by omega) (by omega)]
    exact Int.emod_eq_of_lt (by omega) (by omega)
  have dN : (N : Int) / 4294967296 = 0 := Int.ediv_eq_zero_of_lt (by omega) (by omega)
  have wN : IntKind.u64.wrap (N : Int) = (N : Int) := wraps_u64 _ (by omega) (by omega)
  have w0 : IntKind.u64.wrap 0 = 0 := wraps_u64 _ (by omega) (by omega)
  go_enter Try.func72, Try.ntmps72
  go_wp2_with fail
  go_ret2
  exact ⟨rfl, rfl⟩
theorem mul_any (N : Nat) (hN : N ≤ 40) (w : World) : Calls Try.prog 67 #[.int .u64 1, .int .u64 (N : Int)] w fun e w' => e = .returned (.tuple #[.int .u64 0, .int .u64 (N : Int)]) ∧ w = w' := by
  have HM := hid (mul64_any N hN w)
  go_enter Try.func67, Try.ntmps67
  go_wp2_with (go_at_call 72; (with_reducible refine HM.out.mono ?_); rintro _ _ ⟨rfl, rfl⟩)
  go_ret2
  exact ⟨rfl, rfl⟩
/-- The row while it is filled. -/
def fil (x : Int) (N k : Nat) : List Int := List.replicate k x ++ List.replicate (N - k) 0
theorem fil_len {x : Int} {N k : Nat} (h : k ≤ N) : (fil x N k).length = N := by simp [fil]; omega
theorem fil_zero (x : Int) (N : Nat) : fil x N 0 = List.replicate N 0 := by simp [fil]
theorem fil_all (x : Int) (N : Nat) : fil x N N = List.replicate N x := by simp [fil]
theorem fil_splice {x : Int} {N k m : Nat} (h : k + m ≤ N) : splice (icells (fil x N k)) k (icells (List.replicate m x)) = icells (fil x N (k + m)) := by
  unfold splice icells fil
  rw [List.length_map, List.length_replicate, ← List.map_take, ← List.map_drop, ← List.map_append, ← List.map_append]
  congr 1
  rw [List.take_append_of_le_length (by simp), List.take_of_length_le (by simp), List.drop_append, List.drop_of_length_le (by simp), List.drop_replicate, List.length_replicate, List.nil_append, ← List.append_assoc, List.replicate_append_replicate]
  congr 2
  omega
theorem fil_get {x : Int} {N k j : Nat} (h : j < k) : (fil x N k)[j]? = some x := by
  unfold fil
  rw [List.getElem?_append_left (by simpa using h), List.getElem?_replicate, if_pos h]
theorem one_cells (l : List Int) : ∀ v ∈ icells l, v.oneCell' = true := by
  intro v hv
  simp only [icells, List.mem_map] at hv
  obtain ⟨_, _, rfl⟩ := hv
  rfl
theorem rep_src {w : World} {g : Nat} {x : Int} {m : Nat} (h : ∀ j, j < m → w.cell? ⟨g, j, none⟩ = some (.int .i64 x)) : ∀ j v, (icells (List.replicate m x))[j]? = some v → w.cell? ((⟨g, 0, none⟩ : Addr).add j) = some v := by
  intro j v hv
  rw [Go.WideShapes.add_plain, Nat.zero_add]
  simp only [icells, List.map_replicate, List.getElem?_replicate] at hv
  split at hv
  · rename_i hj
    rw [h j hj]
    exact hv
  · cases hv
theorem min_facts {k N : Nat} (h1 : 1 ≤ k) (h : k < N) : ∃ m, 1 ≤ m ∧ k + m ≤ N ∧ m ≤ k ∧ m = Nat.min k (N - k) := by
  rcases Nat.le_total k (N - k) with h2 | h2
  · exact ⟨k, h1, by omega, Nat.le_refl _, (Nat.min_eq_left h2).symm⟩
  · exact ⟨N - k, by omega, by omega, h2, (Nat.min_eq_right h2).symm⟩
theorem one_min {N : Nat} {x : Int} (h : 1 ≤ N) : (icells (List.replicate 1 x)).length = Nat.min 1 N := by
  rw [icells_len, List.length_replicate]
  exact (Nat.min_eq_left h).symm
theorem repeat_any (N b : Nat) (x : Int) (w : World) (hN0 : 1 ≤ N) (hN : N ≤ 40) (hb : b < w.heap.size) (hx : w.cell? ⟨b, 0, none⟩ = some (.int .i64 x)) :
    Calls Try.prog 61 #[.slice (some ⟨b, 0, none⟩) 1 1, .int .i64 (N : Int)] w fun e w' => ∃ G, e = .returned (.slice (some ⟨G, 0, none⟩) N N) ∧ w.heap.size ≤ G ∧ IRow w' G (List.replicate N x) ∧ Below w.heap.size w w' := by
  have HM := hid (mul_any N hN w)
  have t1 : decide ((N : Int) < 0) = false := by simp
  have t2 : decide ((9223372036854775807 : Int) < (N : Int)) = false := by simp; omega
  have wN : IntKind.u64.wrap (N : Int) = (N : Int) := wraps_u64 _ (by omega) (by omega)
  have wN' : IntKind.i64.wrap (N : Int) = (N : Int) := wraps_i64 _ (by omega) (by omega)
  obtain ⟨i5, hi, hz0, hz1, hz2⟩ := info_parts (show (Try.prog.info? 3).map (fun i => (i.zero, i.size, i.bytes)) = some (some (.int .i64 0), 1, 8) by kernel_rfl)
  have Ai := hid hi; have Az0 := hid hz0; have Az1 := hid hz1; have Az2 := hid hz2
  have Asz : Hid ((Try.prog.info? 3).map (·.size) = some 1) := by show _ = _; rw [hi]; simp [hz1]
  clear hi hz0 hz1 hz2
  have Hx := hid hx
  clear hx
  go_enter Try.func61, Try.ntmps61
  go_wp2_with (first
    | (go_at_call 67; (with_reducible refine HM.out.mono ?_); rintro _ _ ⟨rfl, rfl⟩)
    | (at_make; refine wpList_make_full _ rfl (.tmp 29) (.tmp 29) 25 rfl w.heap.size 3 i5 (.int .i64 0) 1 Try.underlying25 Ai.out Az0.out Az1.out _ _ _ _ N rfl rfl rfl rfl (by rw [Az2.out]; omega) (by unfold maxLen; omega) (Nat.le_refl _) ?_; intro w3 hown3 hg3; have HR3 := hid (IRow.made hown3); have b3 := grown_below hg3; clear hown3 hg3)
    | ((with_reducible refine wpList_copy_splice rfl (.tmp 31) (.tmp 32) 25 25 rfl 3 Try.underlying25 Asz.out (some ⟨w.heap.size, 0, none⟩) (some ⟨b, 0, none⟩) N N 1 1 rfl rfl w.heap.size 0 (icells (List.replicate N 0)) 3 ?c1 (icells (List.replicate 1 x)) ?c2 ?c3 ?c4 (one_cells _) w.heap.size w b3 (Nat.le_refl _) ?c5); (case c1 => exact HR3.out); (case c2 => exact one_min hN0); (case c3 => exact fun _ => ⟨rfl, _, rfl, rep_src (fun j hj => by obtain rfl : j = 0 := (by omega); exact (b3.cell (p := ⟨b, 0, none⟩) hb).trans Hx.out)⟩); (case c4 => simp [icells]; omega); intro w4 HR4 b4))
  have HI4 : Hid (IRow w4 w.heap.size (fil x N 1)) := by
    have := HR4.out
    rw [← fil_zero x N, fil_splice (by omega)] at this
    exact this
  clear HR3 HR4 b3
  go_loopw [8] (fun i wr => ∃ k : Nat, 1 ≤ k ∧ k ≤ N ∧ i = .int .i64 k ∧ Hid (IRow wr w.heap.size (fil x N k)) ∧ Below w.heap.size w wr) (fun i _ => N - (intOf i).toNat)
  case atStart => exact ⟨1, Nat.le_refl _, hN0, by simp [icells], HI4.out, b4⟩
  case round =>
    obtain ⟨k, hk1, hk, rfl, HI, hbw⟩ := hrel
    by_cases hlt : k < N
    · obtain ⟨m, hm0, hm1, hm2, hm3⟩ := min_facts hk1 hlt
      have Hm3 := hid hm3
      clear hm3
      have HS := hid (rep_src (w := wr) (g := w.heap.size) (x := x) (m := m) (fun j hj => HI.out.cell (fil_get (by omega))))
      have hif : (if N = k then (some ⟨w.heap.size, 0, none⟩ : Option Addr) else some ⟨w.heap.size, k, none⟩) = some ⟨w.heap.size, k, none⟩ := if_neg (by omega)
      have hnk : ¬N = k := by omega
      have HID : Hid (wr.drew.heap[w.heap.size]? = some (.cells (icells (fil x N k)).toArray 3 (0, 0))) := HI
      have hbd : Below w.heap.size w wr.drew := hbw.drew
      have HSD : Hid (∀ j v, (icells (List.replicate m x))[j]? = some v → wr.drew.cell? ((⟨w.heap.size, 0, none⟩ : Addr).add j) = some v) := HS
      go_wp2_with fail
      go_region_law (simp only [List.getElem_toArray, List.getElem_cons_succ, List.getElem_cons_zero]; refine step_copy_splice (by rfl) (.tmp 41) (.tmp 44) 25 25 (by rfl) 3 Try.underlying25 Asz.out (some ⟨w.heap.size, k, none⟩) (some ⟨w.heap.size, 0, none⟩) (N - k) (N - k) k N (by go_simp) (by go_simp) w.heap.size k (icells (fil x N k)) 3 HID.out (icells (List.replicate m x)) ?d2 ?d3 ?d4 (one_cells _) w.heap.size w hbd (Nat.le_refl _) ?d5; (case d2 => rw [icells_len, List.length_replicate]; exact Hm3.out); (case d3 => exact fun _ => ⟨rfl, _, rfl, HSD.out⟩); (case d4 => rw [icells_len, icells_len, List.length_replicate, fil_len hk]; exact hm1); intro w5 HR5 b5)
      have HI5 : Hid (IRow w5 w.heap.size (fil x N (k + m))) := by
        have := HR5.out
        rw [fil_splice hm1] at this
        exact this
      have hml : (icells (List.replicate m x)).length = m := by rw [icells_len, List.length_replicate]
      have hwk : IntKind.i64.wrap ((k : Int) + (m : Int)) = ((k + m : Nat) : Int) := by rw [wraps_i64 _ (by omega) (by omega)]; omega
      clear HI HID HR5
      simp only [List.getElem_toArray, List.getElem_cons_succ, List.getElem_cons_zero, Act.put, List.setIfInBounds_toArray, List.set_cons_succ, List.set_cons_zero]
      go_wp2_with fail
      go_roundw
      case rel => exact ⟨k + m, by omega, hm1, by rw [hml, hwk], HI5.out, b5⟩
      case measure => rw [hml, hwk]; clear hml hwk wN wN'; simp [intOf]; omega
    · obtain rfl : k = N := by omega
      go_wp2_with fail
      go_ret
      exact ⟨_, rfl, Nat.le_refl _, by rw [← fil_all]; exact HI.out, hbw⟩
theorem linkOf_any (k q : Nat) (hq : k / 2 = q) (hk : k ≤ 1000000) (w : World) : Calls Try.prog 65 #[.int .i64 (k : Int)] w fun e w' => e = .returned (.int .i64 (q : Int)) ∧ w = w' := by
  have d1 : Int.tdiv (k : Int) 2 = (q : Int) := by rw [← hq]; rfl
  have hq2 : q ≤ 1000000 := by omega
  clear hq hk
  go_enter Try.func65, Try.ntmps65
  go_wp2_with fail
  go_ret
  exact ⟨rfl, rfl⟩
theorem isDown2_any (A : Option Addr) (n c : Nat) (dn : List Bool) (k : Nat) (w : World) (hr : RBl w w.heap.size A n dn) (hk : k ≤ 1000000) : Calls Try.prog 54 #[.slice A n c, .int .i64 (k : Int)] w fun e w' => e = .returned (.bool (isDn dn (k / 2))) ∧ w = w' := by
  obtain ⟨i, hi⟩ : ∃ i, k / 2 = i := ⟨_, rfl⟩
  have HL := hid (linkOf_any k i hi (by omega))
  rw [hi]
  have hi2 : i ≤ 1000000 := by omega
  clear hi
  have hl := hr.1
  by_cases h : i < n
  · have t2 : decide (i < n) = true := by simpa using h
    have t2' : decide ((i : Int) < (n : Int)) = true := by simpa using h
    obtain ⟨x, hx⟩ : ∃ x, dn[i]? = some x := ⟨dn[i]'(by omega), List.getElem?_eq_getElem _⟩
    obtain ⟨b, off, rfl, hb, hc⟩ := hr.2 (by omega)
    have c0 := hc i x hx
    have Q : isDn dn i = x := by unfold isDn; rw [List.getD_eq_getElem?_getD, hx]; rfl
    rw [Q]
    clear hc hx hr Q
    go_enter Try.func54, Try.ntmps54
    go_wp2_with (go_at_call 65; (with_reducible refine (HL.out _).mono ?_); rintro _ _ ⟨rfl, rfl⟩)
    go_ret
    exact ⟨by simp, rfl⟩
  · have t2 : decide (i < n) = false := by simpa using h
    have t2' : decide ((i : Int) < (n : Int)) = false := by simp; omega
    have Q : isDn dn i = false := by unfold isDn; rw [List.getD_eq_getElem?_getD, List.getElem?_eq_none (by omega)]; rfl
    rw [Q]
    clear hr Q
    go_enter Try.func54, Try.ntmps54
    go_wp2_with (go_at_call 65; (with_reducible refine (HL.out _).mono ?_); rintro _ _ ⟨rfl, rfl⟩)
    go_ret
    exact ⟨by simp, rfl⟩
theorem metric_any (nd : Int) (A : Option Addr) (n c : Nat) (l : List Lnk) (k : Nat) (w : World) (hr : RLnk w w.heap.size A n l) (hk : k < 2 * n) (hn : n ≤ 1000) :
    Calls Try.prog 57 #[.agg #[.int .i64 nd, .slice A n c], .int .i64 (k : Int)] w fun e w' => e = .returned (.int .i64 (met l k)) ∧ Below w.heap.size w w' := by
  have b1 : Below w.heap.size w (w.alloc (.cells #[.int .i64 nd, .slice A n c] 24)) := Below.alloc (Below.refl _ _) (Nat.le_refl _) _
  obtain ⟨i, hi⟩ : ∃ i, k / 2 = i := ⟨_, rfl⟩
  have HL := hid (linkOf_any k i hi (by omega))
  have hin : i < n := by omega
  have hl := hr.1
  obtain ⟨x, hx⟩ : ∃ x, l[i]? = some x := ⟨l[i]'(by omega), List.getElem?_eq_getElem _⟩
  obtain ⟨b, off, rfl, hb, hc⟩ := hr.2 (by omega)
  have c0 := ((b1.cell (p := ⟨b, off + i * 4 + 2, none⟩) hb).trans (hc i x hx).2.2.1)
  have Q : met l k = x.m := by unfold met; rw [hi, List.getD_eq_getElem?_getD, hx]; rfl
  rw [Q]
  obtain ⟨m, hm⟩ : ∃ m, x.m = m := ⟨_, rfl⟩
  rw [hm] at c0 ⊢
  clear hc hx hr Q hi hk hm
  go_enter Try.func57, Try.ntmps57
  go_wp2_with fail
  go_big_quiet ((go_at_call 65; exact Calls.quiet_of_same ((HL.out _).mono fun e w' h => ⟨h.1, h.2.symm⟩)))
  go_wp2_with fail
  go_ret
  exact ⟨rfl, below_drewN b1⟩
theorem end_any (nd : Int) (A : Option Addr) (n c : Nat) (l : List Lnk) (k : Nat) (w : World) (hr : RLnk w w.heap.size A n l) (hk : k < 2 * n) (hn : n ≤ 1000) :
    Calls Try.prog 56 #[.agg #[.int .i64 nd, .slice A n c], .int .i64 (k : Int)] w fun e w' => e = .returned (.int .i64 (tov l k)) ∧ Below w.heap.size w w' := by
  have b1 : Below w.heap.size w (w.alloc (.cells #[.int .i64 nd, .slice A n c] 24)) := Below.alloc (Below.refl _ _) (Nat.le_refl _) _
  have HE := hid (ends_any nd A n c l (k : Int) _ (hr.on b1) hn (by omega))
  have Q : tov l k = (endsS l (k : Int)).2.1 := rfl
  rw [Q]
  obtain ⟨x, hx⟩ : ∃ x, (endsS l (k : Int)).1 = x := ⟨_, rfl⟩
  obtain ⟨y, hy⟩ : ∃ y, (endsS l (k : Int)).2.1 = y := ⟨_, rfl⟩
  obtain ⟨z, hz⟩ : ∃ z, (endsS l (k : Int)).2.2 = z := ⟨_, rfl⟩
  rw [hx, hy, hz] at HE
  rw [hy]
  clear hr hk Q hx hy hz
  go_enter Try.func56, Try.ntmps56
  go_wp2_with (go_at_call 43; (with_reducible refine HE.out.mono ?_); rintro _ w2 ⟨rfl, hb2⟩)
  go_ret
  exact ⟨rfl, b1.trans (hb2.mono (by simp))⟩
def isNextS (a b m : Int) : Bool := decide (0 < a ∧ 0 ≤ b ∧ a - b = m)
theorem isNext_any (a b m : Int) (w : World) (ha : -1099511627776 ≤ a ∧ a ≤ 1099511627776) (hb : -1099511627776 ≤ b ∧ b ≤ 1099511627776) : Calls Try.prog 55 #[.int .i64 a, .int .i64 b, .int .i64 m] w fun e w' => e = .returned (.bool (isNextS a b m)) ∧ w = w' := by
  obtain ⟨ha1, ha2⟩ := ha
  obtain ⟨hb1, hb2⟩ := hb
  have hw : IntKind.i64.wrap (a - b) = a - b := by rw [IntKind.wrap_i64]; omega
  by_cases h1 : 0 < a
  · have t1 : decide (0 < a) = true := by simpa using h1
    by_cases h2 : 0 ≤ b
    · have t2 : decide (0 ≤ b) = true := by simpa using h2
      have Q : isNextS a b m = (a - b == m) := by unfold isNextS; rw [Bool.eq_iff_iff]; simp [h1, h2]
      rw [Q]
      clear Q h1 h2
      go_enter Try.func55, Try.ntmps55
      go_wp2_with fail
      go_ret
      exact ⟨ret_bool (by simp), rfl⟩
    · have t2 : decide (0 ≤ b) = false := by simpa using h2
      have Q : isNextS a b m = false := by unfold isNextS; rw [decide_eq_false_iff_not]; omega
      rw [Q]
      clear Q h1 h2
      go_enter Try.func55, Try.ntmps55
      go_wp2_with fail
      go_ret
      exact ⟨rfl, rfl⟩
  · have t1 : decide (0 < a) = false := by simpa using h1
    have Q : isNextS a b m = false := by unfold isNextS; rw [decide_eq_false_iff_not]; omega
    rw [Q]
    clear Q h1
    go_enter Try.func55, Try.ntmps55
    go_wp2_with fail
    go_ret
    exact ⟨rfl, rfl⟩
def hasNodeS (nd : Int) (l : List Lnk) (v : Int) : Bool := decide ((checkS nd l).2 = 0 ∧ 0 ≤ v ∧ v < nd)
theorem hasNode_any (nd : Int) (A : Option Addr) (n c : Nat) (l : List Lnk) (v : Int) (w : World) (hr : RLnk w w.heap.size A n l) :
    Calls Try.prog 52 #[.agg #[.int .i64 nd, .slice A n c], .int .i64 v] w fun e w' => e = .returned (.bool (hasNodeS nd l v)) ∧ Below w.heap.size w w' := by
  have hS := Held.start w nd A n c
  have HK' := hid (fun (w' : World) (h : Held w nd A n c w') => h.calls (check_any nd A n c l w' (h.on hr)))
  obtain ⟨g0, g1⟩ := hS.cells
  obtain ⟨k1, hk1⟩ : ∃ k1, (checkS nd l).1 = k1 := ⟨_, rfl⟩
  obtain ⟨k2, hk2⟩ : ∃ k2, (checkS nd l).2 = k2 := ⟨_, rfl⟩
  have Q : hasNodeS nd l v = decide (k2 = 0 ∧ 0 ≤ v ∧ v < nd) := by unfold hasNodeS; rw [hk2]
  rw [hk1, hk2] at HK'
  rw [Q]
  clear hr hk1 hk2 Q
  by_cases h1 : k2 = 0
  · subst h1
    by_cases h2 : 0 ≤ v
    · have t2 : decide (0 ≤ v) = true := by simpa using h2
      have Q : decide ((0 : Int) = 0 ∧ 0 ≤ v ∧ v < nd) = decide (v < nd) := by simp [h2]
      rw [Q]
      clear Q h2
      go_enter Try.func52, Try.ntmps52
      go_wp2_with (go_at_call 45; (with_reducible refine (HK'.out _ hS).mono ?_); rintro _ w2 ⟨rfl, h2⟩; obtain ⟨g2, g3⟩ := h2.cells)
      go_ret
      exact ⟨by simp, h2.1⟩
    · have t2 : decide (0 ≤ v) = false := by simpa using h2
      have Q : decide ((0 : Int) = 0 ∧ 0 ≤ v ∧ v < nd) = false := by rw [decide_eq_false_iff_not]; omega
      rw [Q]
      clear Q h2
      go_enter Try.func52, Try.ntmps52
      go_wp2_with (go_at_call 45; (with_reducible refine (HK'.out _ hS).mono ?_); rintro _ w2 ⟨rfl, h2⟩; obtain ⟨g2, g3⟩ := h2.cells)
      go_ret
      exact ⟨by simp, h2.1⟩
  · have t1 : (k2 == 0) = false := by simpa using h1
    have Q : decide (k2 = 0 ∧ 0 ≤ v ∧ v < nd) = false := by rw [decide_eq_false_iff_not]; omega
    rw [Q]
    clear Q h1
    go_enter Try.func52, Try.ntmps52
    go_wp2_with (go_at_call 45; (with_reducible refine (HK'.out _ hS).mono ?_); rintro _ w2 ⟨rfl, h2⟩; obtain ⟨g2, g3⟩ := h2.cells)
    go_ret
    exact ⟨by simp, h2.1⟩
end Go.Proofs.Ytabgbhkpeeibaaa
