import Derived.Test.YtihbpggoieieoaaProg
import Derived.Test.YtihbpggoieieoaaW
import Derived.WalkKit
import Derived.Outline
import Derived.Deep.QuietTactic
import Derived.BigQuiet
namespace Go.Proofs.Ytihbpggoieieoaa
open Go.RowKit
set_option maxHeartbeats 400000

def fitB (n m : Int) : Bool := decide (0 ≤ n ∧ n < m)
theorem Ent.fits_eq (e : Ent) : e.fits = (fitB e.lab 1048576 && fitB e.cls 8 && fitB e.ttl 256) := by
  unfold Ent.fits fitB
  rw [Bool.eq_iff_iff]; simp; omega

theorem fits_core (n k m : Int) (hk : (k = 20 ∧ m = 1048576) ∨ (k = 3 ∧ m = 8) ∨ (k = 8 ∧ m = 256)) (w : World) :
    Calls Try.prog 17 #[.int .i64 n, .int .i64 k] w fun e w' => e = .returned (.bool (fitB n m)) ∧ w = w' := by
  by_cases h : 0 ≤ n
  · have e : fitB n m = decide (n < m) := by unfold fitB; simp [h]
    rw [e]; clear e
    rcases hk with ⟨rfl, rfl⟩ | ⟨rfl, rfl⟩ | ⟨rfl, rfl⟩ <;>
    · go_enter Try.func17, Try.ntmps17
      go_wp2
      go_ret
      exact ⟨rfl, rfl⟩
  · have e : fitB n m = false := by unfold fitB; simp [h]
    rw [e]; clear e
    have h' : decide (0 ≤ n) = false := by simpa using h
    go_enter Try.func17, Try.ntmps17
    go_wp2
    go_ret
    exact ⟨rfl, rfl⟩

theorem fits20 (n : Int) (w : World) : Calls Try.prog 17 #[.int .i64 n, .int .i64 20] w fun e w' => e = .returned (.bool (fitB n 1048576)) ∧ w = w' := fits_core n 20 _ (.inl ⟨rfl, rfl⟩) w
theorem fits3 (n : Int) (w : World) : Calls Try.prog 17 #[.int .i64 n, .int .i64 3] w fun e w' => e = .returned (.bool (fitB n 8)) ∧ w = w' := fits_core n 3 _ (.inr (.inl ⟨rfl, rfl⟩)) w
theorem fits8 (n : Int) (w : World) : Calls Try.prog 17 #[.int .i64 n, .int .i64 8] w fun e w' => e = .returned (.bool (fitB n 256)) ∧ w = w' := fits_core n 8 _ (.inr (.inr ⟨rfl, rfl⟩)) w

theorem okAll_drop {l : List Ent} {k n : Nat} {e : Ent} (hn : l.length = n) (h : l[k]? = some e) : okAll (l.drop k) = (e.fits && (e.last == decide (k + 1 = n)) && okAll (l.drop (k + 1))) := by
  subst hn
  obtain ⟨hk, rfl⟩ := List.getElem?_eq_some_iff.1 h
  rw [List.drop_eq_getElem_cons hk, okAll]
  congr 3
  rw [Bool.eq_iff_iff]
  simp only [List.isEmpty_iff, List.drop_eq_nil_iff, decide_eq_true_eq]
  omega

theorem last_test {k n : Nat} {q : Bool} (_ : k < n) : (q == decide (k + 1 = n)) = (q == ((k : Int) == (n : Int) - 1)) := by
  congr 1
  rw [Bool.eq_iff_iff]
  simp
  omega

theorem isStack_any (A : Option Addr) (n c : Nat) (l : List Ent) (w : World) (hn : 1 ≤ n) (hm : n ≤ 1000) (hr : REnt w w.heap.size A n l) :
   Calls Try.prog 14 #[.slice A n c] w fun e w' => e = .returned (.bool (okAll l)) ∧ Below w.heap.size w w' := by
  have hn0 : ((n : Int) == 0) = false := by simp; omega
  obtain ⟨hl, hc⟩ := hr
  obtain ⟨b, off, rfl, hb, hc⟩ := hc (by omega)
  go_enter Try.func14, Try.ntmps14
  go_wp2
  go_loopw [15] (fun i wr => ∃ k : Nat, k ≤ n ∧ i = .int .i64 k ∧ Below w.heap.size w wr ∧ okAll (l.drop k) = okAll l) (fun i _ => n - (intOf i).toNat)
  case atStart => exact ⟨0, Nat.zero_le _, rfl, Below.refl _ _, rfl⟩
  case round =>
    obtain ⟨k, hk, rfl, hbel, hok⟩ := hrel
    by_cases hlt : k < n
    · obtain ⟨e, he⟩ : ∃ e, l[k]? = some e := ⟨l[k]'(by omega), List.getElem?_eq_getElem (by omega)⟩
      obtain ⟨c0, c1, c2, c3⟩ := hc k e he
      have Hd := hid (okAll_drop hl he)
      have Hok := hid hok
      have c0' := (hbel.cell (p := ⟨b, off + k * 4, none⟩) hb).trans c0
      have c1' := (hbel.cell (p := ⟨b, off + k * 4 + 1, none⟩) hb).trans c1
      have c2' := (hbel.cell (p := ⟨b, off + k * 4 + 2, none⟩) hb).trans c2
      have c3' := (hbel.cell (p := ⟨b, off + k * 4 + 3, none⟩) hb).trans c3
      have Hf := hid e.fits_eq
      clear c0 c1 c2 c3 he hok hl hc
      generalize h1 : fitB e.lab 1048576 = q1 at *
      generalize h2 : fitB e.cls 8 = q2 at *
      generalize h3 : fitB e.ttl 256 = q3 at *
      generalize h4 : e.last = q4 at *
      cases q1 <;> cases q2 <;> cases q3 <;>
      go_wp2_with (first
        | (go_at_call 17; (with_reducible refine (fits20 _ _).mono ?_); rintro e' w' ⟨rfl, rfl⟩)
        | (go_at_call 17; (with_reducible refine (fits3 _ _).mono ?_); rintro e' w' ⟨rfl, rfl⟩)
        | (go_at_call 17; (with_reducible refine (fits8 _ _).mono ?_); rintro e' w' ⟨rfl, rfl⟩))
      all_goals (first
        | (go_ret
           exact ⟨ret_bool (by rw [← Hok.out, Hd.out, Hf.out]; rfl), hbel.alloc hbel.size _⟩)
        | skip)
      · go_ret
        have h5 : (!q4 == ((k : Int) == (n : Int) - 1)) = true := by assumption
        exact ⟨ret_bool (by rw [← Hok.out, Hd.out, Hf.out, last_test hlt, show (q4 == ((k : Int) == (n : Int) - 1)) = false by simpa using h5]; rfl), hbel.alloc hbel.size _⟩
      · have h5 : (!q4 == ((k : Int) == (n : Int) - 1)) = false := by assumption
        go_roundw
        case rel => exact ⟨k + 1, by omega, by go_num, hbel.alloc hbel.size _, by rw [← Hok.out, Hd.out, Hf.out, last_test hlt, show (q4 == ((k : Int) == (n : Int) - 1)) = true by simpa using h5]; rfl⟩
        case measure => simp [intOf]; omega
    · obtain rfl : k = n := by omega
      go_wp2_with fail
      go_ret
      exact ⟨ret_bool (by rw [← hok, List.drop_of_length_le (by omega)]; rfl), hbel⟩
theorem isStack_no (A : Option Addr) (n c : Nat) (w : World) (h : n = 0 ∨ 1000 < n) :
   Calls Try.prog 14 #[.slice A n c] w fun e w' => e = .returned (.bool false) ∧ Below w.heap.size w w' := by
  rcases h with rfl | h
  · go_enter Try.func14, Try.ntmps14
    go_wp2
    go_ret
    exact ⟨rfl, Below.refl _ _⟩
  · have hn0 : ((n : Int) == 0) = false := by simp; omega
    have hn1 : (1000 : Int) < (n : Int) := by omega
    go_enter Try.func14, Try.ntmps14
    go_wp2
    go_ret
    exact ⟨rfl, Below.refl _ _⟩
theorem isStack_all (A : Option Addr) (n c : Nat) (l : List Ent) (w : World) (hr : REnt w w.heap.size A n l) :
   Calls Try.prog 14 #[.slice A n c] w fun e w' => e = .returned (.bool (isStk l)) ∧ Below w.heap.size w w' := by
  by_cases h : 1 ≤ n ∧ n ≤ 1000
  · have e : isStk l = okAll l := by unfold isStk; rw [hr.1]; simp [h]
    rw [e]; exact isStack_any A n c l w h.1 h.2 hr
  · have e : isStk l = false := by unfold isStk; rw [hr.1]; simp [h]
    rw [e]; exact isStack_no A n c w (by omega)
end Go.Proofs.Ytihbpggoieieoaa
