/- What a law asks of From, To, Next. -/
import Derived.Test.YtabgbhkpeeibaaaSpE
import Derived.Test.YtabgbhkpeeibaaaWgD
namespace Go.Proofs.Ytabgbhkpeeibaaa
open Go.RowKit
set_option maxHeartbeats 6400000
set_option maxRecDepth 100000
theorem dist_from {nd : Nat} {l : List Lnk} {dn : List Bool} {s : Nat} (hg : GOk nd l) : ∀ (N : Nat) (d : List Int), PInv nd l dn s d → sumP d ≤ N → ∃ d', PInv nd l dn s d' ∧ DistOk nd l dn s d' := by
  intro N
  induction N with
  | zero =>
    intro d h hN
    by_cases hc : ∀ k, k < 2 * l.length → cloAt l dn d k
    · exact ⟨d, h, h.done hc⟩
    · exfalso
      simp only [Classical.not_forall] at hc
      obtain ⟨k, hk, hc⟩ := hc
      obtain ⟨a, b, x, _, _, hf, ht, hm, ha, hb, hab, hm1, hm2⟩ := edge_facts hg hk
      unfold cloAt at hc
      simp only [Classical.not_imp] at hc
      obtain ⟨hu, h0, hn⟩ := hc
      rw [hf] at h0
      rw [ht, hf, hm] at hn
      have := (h.relax hg hk hu hf ht hm ha hb hab hm1 hm2 h0 (by omega)).2
      omega
  | succ N ih =>
    intro d h hN
    by_cases hc : ∀ k, k < 2 * l.length → cloAt l dn d k
    · exact ⟨d, h, h.done hc⟩
    · simp only [Classical.not_forall] at hc
      obtain ⟨k, hk, hc⟩ := hc
      obtain ⟨a, b, x, _, _, hf, ht, hm, ha, hb, hab, hm1, hm2⟩ := edge_facts hg hk
      unfold cloAt at hc
      simp only [Classical.not_imp] at hc
      obtain ⟨hu, h0, hn⟩ := hc
      rw [hf] at h0
      rw [ht, hf, hm] at hn
      have hr := h.relax hg hk hu hf ht hm ha hb hab hm1 hm2 h0 (by omega)
      exact ih _ hr.1 (by have := hr.2; omega)
theorem dist_ok {nd : Nat} {l : List Lnk} {dn : List Bool} {s : Nat} (hg : GOk nd l) (hs : s < nd) : DistOk nd l dn s (distS nd l dn s) := by
  obtain ⟨d, _, hd⟩ := dist_from (dn := dn) hg _ _ (PInv.start hs) (Nat.le_refl _)
  rw [distS_eq hg hd]
  exact hd
theorem dist_top {nd : Nat} {l : List Lnk} {dn : List Bool} {s : Nat} (hg : GOk nd l) (hs : s < nd) {v : Nat} (hv : v < nd) : dAt (distS nd l dn s) (v : Int) ≤ 654311424 := by
  obtain ⟨d', hp, hd⟩ := dist_from (dn := dn) hg _ _ (PInv.start hs) (Nat.le_refl _)
  rw [distS_eq hg hd]
  exact (hp.bound hg.2.2.1 hv).2
theorem fromS_mem {nd : Int} {l : List Lnk} {dn : List Bool} {s : Int} : ∀ x ∈ fromS nd l dn s, -1 ≤ x ∧ x ≤ 654311424 := by
  intro x hx
  unfold fromS at hx
  split at hx
  · rename_i h
    obtain ⟨N, rfl⟩ := Int.eq_ofNat_of_zero_le (show 0 ≤ nd by omega)
    obtain ⟨S, rfl⟩ := Int.eq_ofNat_of_zero_le h.2.1
    have hg := gok_of h.1
    have hs : S < N := by omega
    rw [Int.toNat_natCast, Int.toNat_natCast] at hx
    obtain ⟨i, hi, rfl⟩ := List.getElem_of_mem hx
    have hok := dist_ok (dn := dn) hg hs
    have hiN : i < N := by rw [← hok.len]; exact hi
    have e : (distS N l dn S)[i] = dAt (distS N l dn S) (i : Int) := by
      have := dAt_get hi
      rw [List.getElem?_eq_getElem hi] at this
      exact Option.some.inj this
    rw [e]
    exact ⟨hok.low i hiN, dist_top hg hs hiN⟩
  · cases hx
def FromSpec (f : Nat) : Prop := ∀ (nd : Int) (A : Option Addr) (n c : Nat) (l : List Lnk) (Ad : Option Addr) (n' c' : Nat) (dn : List Bool) (s : Int) (w : World), GArg w nd A n c l → DArg w Ad n' c' dn → -9223372036854775808 ≤ s → s ≤ 9223372036854775807 →
  Calls Try.prog f #[.agg #[.int .i64 nd, .slice A n c], .slice Ad n' c', .int .i64 s] w (IntAns (fromS nd l dn s) w)
def NextSpec (f : Nat) : Prop := ∀ (nd : Int) (A : Option Addr) (n c : Nat) (l : List Lnk) (Ad : Option Addr) (n' c' : Nat) (dn : List Bool) (At : Option Addr) (n2 c2 : Nat) (to : List Int) (s : Int) (w : World), GArg w nd A n c l → DArg w Ad n' c' dn → TArg w At n2 c2 to → -9223372036854775808 ≤ s → s ≤ 9223372036854775807 →
  Calls Try.prog f #[.agg #[.int .i64 nd, .slice A n c], .slice Ad n' c', .slice At n2 c2, .int .i64 s] w (IntAns (nextS nd l dn to s) w)
theorem refFrom_spec : FromSpec 25 := fun nd A n c l Ad n' c' dn s w hg hd _ _ => refFrom_any nd A n c l Ad n' c' dn s w hg.row hd.row
theorem refNext_spec : NextSpec 44 := fun nd A n c l Ad n' c' dn At n2 c2 to s w hg hd ht _ _ => refNext_any nd A n c l Ad n' c' dn At n2 c2 to s w hg.row hd.row ht.row ht.small
/-- What a call gives that makes a row of numbers: the row, read, and whose it is. -/
theorem ints_out {f : Nat} {args : Array Value} {L : List Int} {w : World} {m : Nat} (hL : L.length = m) (hc : Calls Try.prog f args w (IntAns L w)) :
    Calls Try.prog f args w fun e w' => ∃ A c, e = .returned (.slice A m c) ∧ (RInt w' w'.heap.size A m L ∧ m ≤ c ∧ (A = none → m = 0 ∧ c = 0)) ∧ Below w.heap.size w w' := by
  refine hc.mono ?_
  rintro e' w' ⟨v, rfl, hown, hb⟩
  rw [hL] at hown
  obtain ⟨A, c, rfl, hle, hr⟩ := own_ints hown hL
  refine ⟨A, c, rfl, ⟨hr, hle, fun hA => ?_⟩, hb⟩
  subst hA
  rcases hown.2 with ⟨h1, h2⟩ | ⟨g, cap, cur, h1, _⟩
  · simp only [Value.slice.injEq] at h1; exact ⟨h2, h1.2.2⟩
  · simp at h1
theorem from_one : fromS 1 [] [] 0 = [0] := by
  have hg : GOk 1 [] := ⟨by decide, by decide, by decide, by decide⟩
  have hd : DistOk 1 [] [] 0 [0] := by
    refine ⟨rfl, rfl, fun v hv => ?_, fun k hk => by simp at hk, fun v hv h0 => by omega⟩
    obtain rfl : v = 0 := by omega
    decide
  unfold fromS
  rw [if_pos (by decide)]
  exact distS_eq hg hd
theorem from_two : fromS 2 [⟨0, 1, 7, 0⟩] [] 0 = [0, 7] := by
  have hg : GOk 2 [⟨0, 1, 7, 0⟩] := ⟨by decide, by decide, by decide, by decide⟩
  have hd : DistOk 2 [⟨0, 1, 7, 0⟩] [] 0 [0, 7] := by
    refine ⟨rfl, rfl, fun v hv => ?_, fun k hk => ?_, fun v hv h0 _ => ?_⟩
    · rcases (show v = 0 ∨ v = 1 by omega) with rfl | rfl <;> decide
    · simp at hk
      rcases (show k = 0 ∨ k = 1 by omega) with rfl | rfl <;> decide
    · obtain rfl : v = 1 := by omega
      exact ⟨0, by decide, by decide, by decide, by decide, by decide⟩
  unfold fromS
  rw [if_pos (by decide)]
  exact distS_eq hg hd
end Go.Proofs.Ytabgbhkpeeibaaa
