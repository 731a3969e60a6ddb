/- Merged: CqH CqI CqJ CqK. -/
import Derived.Test.YtkemcgbedapkcaaG10
import Derived.Test.YtkemcgbedapkcaaG07
import Derived.Test.YtkemcgbedapkcaaG09
/- What the laws ask of package compile; the example's lists. -/
namespace Go.Proofs.Ytkemcgbedapkcaa
open Go.RowKit
set_option maxHeartbeats 6400000
set_option maxRecDepth 100000
/-- What package compile's List is asked: over tables that lie as the package likes. -/
def CompOps (TabAt : World → Addr → Nat → List Lnk → Prop) (fList : Nat) : Prop :=
  ∀ (w : World) (p : Addr) (N : Nat) (l : List Lnk) (x : Wnt) (y : WSl) (Ad : Option Addr) (n' c' : Nat) (dn : List Bool) (d : Int), TabAt w p N l → GOk N l → N ≤ 10 → l.length ≤ 16 → WArg w x y → DArg w Ad n' c' dn → y.nv ≤ 100 → y.nn ≤ 100 → y.nl ≤ 100 → y.nc ≤ 100 → In64 d →
    Calls Try.prog fList #[.pointer (some p), .agg #[.int .i64 x.frm, .int .i64 x.too, .int .i64 x.bnd, .slice y.av y.nv y.cv, .slice y.an y.nn y.cn, .slice y.al y.nl y.cl, .slice y.ac y.nc y.cc], .slice Ad n' c', .int .i64 d] w fun e w' =>
      ∃ A c, e = .returned (.tuple #[.slice A (compS N l x dn d).1.length c, .int .i64 (compS N l x dn d).2]) ∧ RSeg w' w'.heap.size A (compS N l x dn d).1.length (compS N l x dn d).1 ∧ Below w.heap.size w w'
def NewOps (TabAt : World → Addr → Nat → List Lnk → Prop) (fNew : Nat) : Prop :=
  (∀ (w w' : World) (p : Addr) (N : Nat) (l : List Lnk), TabAt w p N l → Below w.heap.size w w' → TabAt w' p N l) ∧
  ∀ (nd : Int) (A : Option Addr) (n c : Nat) (l : List Lnk) (w : World), GAny w nd A n c l → Calls Try.prog fNew #[.agg #[.int .i64 nd, .slice A n c]] w (NewAns TabAt nd l w)
def CompSpec (fNew fList : Nat) : Prop := ∃ TabAt : World → Addr → Nat → List Lnk → Prop, NewOps TabAt fNew ∧ CompOps TabAt fList
/-! ### The example -/
theorem pruned_w01 : prunedS 2 lk7 w01 [] = [false] := by decide
theorem pruned_wz : prunedS 2 lk7 wz [] = [false] := by decide
theorem step_two : stepO 2 lk7 w01 [false] 0 0 0 = some (1, 1) := by
  unfold stepO
  rw [show (ptsS w01).getD ((0 : Int) + 1).toNat 0 = 1 from rfl, lk7_1, if_pos (by decide)]
  rfl
theorem reach_two : reachO 2 lk7 w01 [false] 1 (0, 0) = some (1, 1) := by
  rw [reachO_eq lk7_ok, if_neg (by decide), show nextT 2 lk7 0 1 = [0] from two_next]
  show (stepO 2 lk7 w01 [false] 0 0 0).bind _ = _
  rw [step_two]
  show reachO 2 lk7 w01 [false] 1 (1, 1) = _
  rw [reachO_eq lk7_ok, if_pos rfl]
theorem cost_wz : costS 2 lk7 wz [] = (0, 0) := by
  have h2 : legsS 2 lk7 (prunedS 2 lk7 wz []) 0 [0] = some 0 := by
    rw [pruned_wz]
    rw [legsS_some (by rw [lk7_0]; decide), lk7_0]
    rfl
  unfold costS
  rw [if_neg (by decide)]
  rw [show wz.frm = 0 from rfl, show wz.via ++ [wz.too] = [0] from rfl, h2]
  rfl
theorem cost_w01 : (costS 2 lk7 w01 []).2 = 0 := by
  have := has_two
  unfold hasS at this
  simp only [Bool.and_eq_true, beq_iff_eq] at this
  exact this.1
theorem comp_wz : compS 2 lk7 wz [] 3 = ([], 0) := by
  unfold compS
  rw [if_neg (by rw [show ((2 : Nat) : Int) = 2 from rfl, cost_wz]; decide), show ((2 : Nat) : Int) = 2 from rfl, pruned_wz, leastS_is (n := 0) (Nat.zero_le _) (by rfl) (fun m hm => by omega)]
  rfl
theorem can_two : canS 2 lk7 w01 [false] 1 (0, 0) = true := by
  unfold canS
  refine List.any_eq_true.2 ⟨⟨false, 1⟩, List.mem_cons_of_mem _ List.mem_cons_self, ?_⟩
  show goB (canS 2 lk7 w01 [false] 0) (segO 2 lk7 w01 [false] (0, 0) false 1) = true
  have : segO 2 lk7 w01 [false] (0, 0) false 1 = some (1, 1) := by
    unfold segO
    rw [if_neg (by decide), if_pos (by decide), reach_two]
  rw [this]
  rfl
theorem comp_w01 : compS 2 lk7 w01 [] 3 = ([⟨false, 1⟩], 0) := by
  unfold compS
  rw [show ((2 : Nat) : Int) = 2 from rfl, if_neg (by rw [cost_w01]; decide), pruned_w01, show startS w01 = (0, 0) from rfl, leastS_is (n := 1) (by decide) can_two (fun m hm => by
    obtain rfl : m = 0 := by omega
    rfl)]
  simp only
  have h1 : segO 2 lk7 w01 [false] (0, 0) false 1 = some (1, 1) := by
    unfold segO
    rw [if_neg (by decide), if_pos (by decide), reach_two]
  have h0 : segO 2 lk7 w01 [false] (0, 0) false 0 = none := by
    unfold segO
    rw [if_neg (by decide), if_neg (by decide)]
  unfold pathS
  have hf : (segsS 2 lk7).find? (fun s => goB (canS 2 lk7 w01 [false] 0) (segO 2 lk7 w01 [false] (0, 0) s.edge s.too)) = some ⟨false, 1⟩ := by
    show (([⟨false, 0⟩, ⟨false, 1⟩, ⟨true, 0⟩, ⟨true, 1⟩] : List Sg).find? _) = _
    rw [List.find?_cons_of_neg, List.find?_cons_of_pos]
    · show goB (canS 2 lk7 w01 [false] 0) (segO 2 lk7 w01 [false] (0, 0) false 1) = true
      rw [h1]; rfl
    · show ¬goB (canS 2 lk7 w01 [false] 0) (segO 2 lk7 w01 [false] (0, 0) false 0) = true
      rw [h0]; decide
  rw [hf]
  rfl
end Go.Proofs.Ytkemcgbedapkcaa

/- waymarklaw16.Tables; alive of chapter 17. -/
namespace Go.Proofs.Ytkemcgbedapkcaa
open Go.RowKit
set_option maxHeartbeats 6400000
set_option maxRecDepth 100000
def TabsAns (TabAt : World → Addr → Nat → List Lnk → Prop) (nd : Int) (l : List Lnk) (w : World) (e : Ending) (w' : World) : Prop :=
  Below w.heap.size w w' ∧ (((checkS nd l).2 = 0 ∧ ∃ (N : Nat) (p pr : Addr), nd = (N : Int) ∧ e = .returned (.tuple #[.pointer (some p), .pointer (some pr), .bool true]) ∧ TabAt w' p N l ∧ RefAt w' pr N l) ∨
    ((checkS nd l).2 ≠ 0 ∧ ∃ v1 v2, e = .returned (.tuple #[v1, v2, .bool false])))
theorem tabs_any {TabAt : World → Addr → Nat → List Lnk → Prop} (hN : NewOps TabAt 16) (nd : Int) (A : Option Addr) (n c : Nat) (l : List Lnk) (w : World) (hg : GAny w nd A n c l) :
    Calls Try.prog 8 #[.agg #[.int .i64 nd, .slice A n c]] w (TabsAns TabAt nd l w) := by
  have hS := Held.start w nd A n c
  obtain ⟨g0, g1⟩ := hS.cells
  by_cases h : (checkS nd l).2 = 0
  · have HP := hid (show ∀ W, Held w nd A n c W → Calls Try.prog 16 #[.agg #[.int .i64 nd, .slice A n c]] W fun e w' => ∃ (N : Nat) (p : Addr), nd = (N : Int) ∧ e = .returned (.tuple #[.pointer (some p), .int .i64 0]) ∧ TabAt w' p N l ∧ Held w nd A n c w' from fun W hh => by
      refine (hN.2 nd A n c l W (hg.on hh.1)).mono ?_
      rintro e w' ⟨hb, h1 | h1⟩
      · obtain ⟨_, p, N, h2, h3, h4⟩ := h1
        exact ⟨N, p, h2, h3, h4, hh.next hb⟩
      · exact (h1.1 h).elim)
    have HR := hid (show ∀ W, Held w nd A n c W → Calls Try.prog 17 #[.agg #[.int .i64 nd, .slice A n c]] W fun e w' => ∃ (N : Nat) (p : Addr), nd = (N : Int) ∧ e = .returned (.tuple #[.pointer (some p), .int .i64 0]) ∧ RefAt w' p N l ∧ Held w nd A n c w' ∧ Below W.heap.size W w' from fun W hh => by
      refine (refNew_any nd A n c l W (hg.on hh.1)).mono ?_
      rintro e w' ⟨hb, h1 | h1⟩
      · obtain ⟨_, p, N, h2, h3, h4⟩ := h1
        exact ⟨N, p, h2, h3, h4, hh.next hb, hb⟩
      · exact (h1.1 h).elim)
    have HK := hid hN.1
    have Hck := hid h
    clear hN hg h
    go_enter Try.func8, Try.ntmps8
    go_wp2_with (first
      | (go_at_call 16; (with_reducible refine (HP.out _ hS).mono ?_); rintro e1 w1 ⟨N, p, hNd, rfl, ht1, hh1⟩; have HNd := hid hNd; have HT1 := hid ht1; have HH1 := hid hh1; obtain ⟨a0, a1⟩ := hh1.cells; clear hNd ht1)
      | (go_at_call 17; (with_reducible refine (HR.out _ HH1.out).mono ?_); rintro e2 w2 ⟨N2, pr, hNd2, rfl, ht2, hh2, hb2⟩; have HNd2 := hid hNd2; have HT2 := hid ht2; have HH2 := hid hh2; have HB2 := hid hb2; clear hNd2 ht2 hb2))
    go_ret3
    have hNe : N2 = N := by have h1 := HNd.out; have h2 := HNd2.out; omega
    exact ⟨HH2.out.1, .inl ⟨Hck.out, N, p, pr, HNd.out, rfl, HK.out _ _ _ _ _ HT1.out HB2.out, hNe ▸ HT2.out⟩⟩
  · have HP := hid (show ∀ W, Held w nd A n c W → Calls Try.prog 16 #[.agg #[.int .i64 nd, .slice A n c]] W fun e w' => e = .returned (.tuple #[.pointer none, .int .i64 (checkS nd l).2]) ∧ Held w nd A n c w' from fun W hh => by
      refine (hN.2 nd A n c l W (hg.on hh.1)).mono ?_
      rintro e w' ⟨hb, h1 | h1⟩
      · exact (h h1.1).elim
      · exact ⟨h1.2, hh.next hb⟩)
    have HR := hid (show ∀ W, Held w nd A n c W → Calls Try.prog 17 #[.agg #[.int .i64 nd, .slice A n c]] W fun e w' => e = .returned (.tuple #[.pointer none, .int .i64 (checkS nd l).2]) ∧ Held w nd A n c w' from fun W hh => by
      refine (refNew_any nd A n c l W (hg.on hh.1)).mono ?_
      rintro e w' ⟨hb, h1 | h1⟩
      · exact (h h1.1).elim
      · exact ⟨h1.2, hh.next hb⟩)
    have Hck := hid h
    have t1 : ((checkS nd l).2 == 0) = false := by simpa using h
    obtain ⟨ce, hce⟩ : ∃ ce, (checkS nd l).2 = ce := ⟨_, rfl⟩
    rw [hce] at HP HR t1
    clear hN hg h hce
    go_enter Try.func8, Try.ntmps8
    go_wp2_with (first
      | (go_at_call 16; (with_reducible refine (HP.out _ hS).mono ?_); rintro e1 w1 ⟨rfl, hh1⟩; have HH1 := hid hh1; obtain ⟨a0, a1⟩ := hh1.cells)
      | (go_at_call 17; (with_reducible refine (HR.out _ HH1.out).mono ?_); rintro e2 w2 ⟨rfl, hh2⟩; have HH2 := hid hh2))
    go_ret3
    exact ⟨HH2.out.1, .inr ⟨Hck.out, _, _, rfl⟩⟩
end Go.Proofs.Ytkemcgbedapkcaa

/- Cut out of CqJ. -/
namespace Go.Proofs.Ytkemcgbedapkcaa
open Go.RowKit
set_option maxHeartbeats 12800000
set_option maxRecDepth 100000
end Go.Proofs.Ytkemcgbedapkcaa

/- Cut out of CqK. -/
namespace Go.Proofs.Ytkemcgbedapkcaa
open Go.RowKit
set_option maxHeartbeats 12800000
set_option maxRecDepth 100000
def smallB (nd : Int) (n : Nat) : Bool := decide (nd ≤ 10) && decide (n ≤ 16)
theorem small_any (nd : Int) (A : Option Addr) (n c : Nat) (w : World) : Calls Try.prog 7 #[.agg #[.int .i64 nd, .slice A n c]] w fun e w' => e = .returned (.bool (smallB nd n)) ∧ Below w.heap.size w w' := by
  have b1 := (Held.start w nd A n c).1
  have Q : smallB nd n = (decide (nd ≤ 10) && decide (n ≤ 16)) := rfl
  rw [Q]
  by_cases h1 : nd ≤ 10
  · have t1 : decide (nd ≤ 10) = true := decide_eq_true h1
    by_cases h2 : n ≤ 16
    · have t2 : decide ((n : Int) ≤ 16) = true := by simp; omega
      rw [decide_eq_true h1, decide_eq_true h2]
      go_enter Try.func7, Try.ntmps7
      go_wp2_with fail
      go_ret
      exact ⟨by first | rfl | simp, b1⟩
    · have t2 : decide ((n : Int) ≤ 16) = false := by simp; omega
      rw [decide_eq_true h1, decide_eq_false h2]
      go_enter Try.func7, Try.ntmps7
      go_wp2_with fail
      go_ret
      exact ⟨by first | rfl | simp, b1⟩
  · have t1 : decide (nd ≤ 10) = false := decide_eq_false h1
    rw [decide_eq_false h1]
    go_enter Try.func7, Try.ntmps7
    go_wp2_with fail
    go_ret
    exact ⟨by first | rfl | simp, b1⟩
end Go.Proofs.Ytkemcgbedapkcaa
