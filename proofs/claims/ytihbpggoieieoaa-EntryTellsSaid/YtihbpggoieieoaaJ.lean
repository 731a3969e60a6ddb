import Derived.Test.YtihbpggoieieoaaI
import Derived.Laws.StructEq
namespace Go.Proofs.Ytihbpggoieieoaa
open Go.RowKit
set_option maxHeartbeats 1600000
set_option maxRecDepth 100000

/-- What Put answers. -/
def PutA (l : List Ent) (w : World) (e : Ending) (w' : World) : Prop :=
  (isStk l = true ∧ ∃ v, e = .returned (.tuple #[v, .int .i64 0]) ∧ w'.ownsRow w.heap.size 5 1 v (4 * l.length) (bcells (putB l)) ∧ Below w.heap.size w w') ∨
  (isStk l = false ∧ e = .returned (.tuple #[.slice none 0 0, .int .i64 1]) ∧ Below w.heap.size w w')

theorem put_no (A : Option Addr) (n c : Nat) (l : List Ent) (w : World) (hr : REnt w w.heap.size A n l) (h : isStk l = false) :
    Calls Try.prog 8 #[.slice A n c] w fun e w' => e = .returned (.tuple #[.slice none 0 0, .int .i64 1]) ∧ Below w.heap.size w w' := by
  have HA := hid (isStack_all A n c l w hr)
  rw [h] at HA
  clear h
  go_enter Try.func8, Try.ntmps8
  go_wp2_with (go_at_call 14; (with_reducible refine HA.out.mono ?_); rintro e' w1 ⟨rfl, hb1⟩)
  go_ret2
  exact ⟨rfl, hb1⟩
theorem put_all (A : Option Addr) (n c : Nat) (l : List Ent) (w : World) (hr : REnt w w.heap.size A n l) : Calls Try.prog 8 #[.slice A n c] w (PutA l w) := by
  cases h : isStk l with
  | true =>
    have h' := h
    simp only [isStk, Bool.and_eq_true, decide_eq_true_eq] at h'
    have hl := hr.1
    refine (put_yes A n c l w (by omega) (by omega) hr h'.2).mono fun e w' ⟨v, h1, h2, h3⟩ => .inl ⟨h, v, h1, by rw [hl]; exact h2, h3⟩
  | false => exact (put_no A n c l w hr h).mono fun e w' ⟨h1, h2⟩ => .inr ⟨h, h1, h2⟩
theorem ref_bad (A : Option Addr) (n c : Nat) (w : World) (h : n = 0 ∨ 1000 < n) : Calls Try.prog 9 #[.slice A n c] w fun e w' => e = .returned (.tuple #[.slice none 0 0, .int .i64 1]) ∧ w = w' := by
  rcases h with rfl | h
  · go_enter Try.func9, Try.ntmps9
    go_wp2_with fail
    go_ret2
    exact ⟨rfl, rfl⟩
  · have t0 : decide ((n : Int) < 1) = false := by simp; omega
    have t2 : (1000 : Int) < (n : Int) := by omega
    go_enter Try.func9, Try.ntmps9
    go_wp2_with fail
    go_ret2
    exact ⟨rfl, rfl⟩
theorem ref_all (A : Option Addr) (n c : Nat) (l : List Ent) (w : World) (hr : REnt w w.heap.size A n l) : Calls Try.prog 9 #[.slice A n c] w (PutA l w) := by
  have hl := hr.1
  by_cases h : n = 0 ∨ 1000 < n
  · refine (ref_bad A n c w h).mono fun e w' ⟨h3, h4⟩ => .inr ⟨?_, h3, h4 ▸ Below.refl _ _⟩
    unfold isStk
    rw [hl]
    simp; omega
  · have he : isStk l = okAll l := by unfold isStk; rw [hl]; simp; omega
    refine (ref_any A n c l w (by omega) (by omega) hr).mono fun e w' ha => ?_
    rcases ha with ⟨h1, v, h2, h3, h4⟩ | ⟨h1, h2, h3⟩
    · exact .inl ⟨he.trans h1, v, h2, by rw [hl]; exact h3, h4⟩
    · exact .inr ⟨he.trans h1, h2, h3⟩

theorem s38 : Try.prog.stoodInHeld 38 = false := by kernel_rfl
theorem g38 : Try.prog.eqGuardType Try.prog.depth 38 = false := by kernel_rfl
theorem ne38 (e f : Ent) (W : World) : (binOp .neq 38 (.agg #[.int .i64 e.lab, .int .i64 e.cls, .int .i64 e.ttl, .bool e.last]) (.agg #[.int .i64 f.lab, .int .i64 f.cls, .int .i64 f.ttl, .bool f.last])).run Try.prog W = .ok (.bool (!decide (e = f))) W := by
  rw [run_neq_struct, run_equalIn_agg W 9999 38 _ _ (by simp [Program.fieldsOf, Try.underlying38]) s38]
  simp [Program.fieldsOf, Try.underlying38, Op.eqFields, part, go_sem]
  obtain ⟨a, b, c, d⟩ := e
  obtain ⟨a', b', c', d'⟩ := f
  by_cases h1 : a = a' <;> by_cases h2 : b = b' <;> by_cases h3 : c = c' <;> by_cases h4 : d = d' <;> simp [h1, h2, h3, h4]

theorem same_any (A A' : Option Addr) (n c c' : Nat) (l l' : List Ent) (w : World) (hr : REnt w w.heap.size A n l) (hr' : REnt w w.heap.size A' n l') (hn : 0 < n) (hm : n ≤ 100000) :
    Calls Try.prog 13 #[.slice A n c, .slice A' n c'] w fun e w' => e = .returned (.bool (decide (l = l'))) ∧ Below w.heap.size w w' := by
  obtain ⟨hl, hc⟩ := hr
  obtain ⟨hl', hc'⟩ := hr'
  obtain ⟨b, off, rfl, hb, hc⟩ := hc (by omega)
  obtain ⟨b', off', rfl, hb', hc'⟩ := hc' (by omega)
  have Hl := hid hl; have Hl' := hid hl'
  clear hl hl'
  go_enter Try.func13, Try.ntmps13
  go_wp2_with fail
  go_loopw [5] (fun i wr => ∃ k : Nat, k ≤ n ∧ i = .int .i64 k ∧ Below w.heap.size w wr ∧ l.take k = l'.take k) (fun i _ => n - (intOf i).toNat)
  case atStart => exact ⟨0, Nat.zero_le _, rfl, Below.refl _ _, rfl⟩
  case round =>
    obtain ⟨k, hk, rfl, hbel, htk⟩ := hrel
    by_cases hlt : k < n
    · obtain ⟨e, he⟩ : ∃ e, l[k]? = some e := ⟨l[k]'(by have := Hl.out; omega), List.getElem?_eq_getElem (by have := Hl.out; omega)⟩
      obtain ⟨f, hf⟩ : ∃ e, l'[k]? = some e := ⟨l'[k]'(by have := Hl'.out; omega), List.getElem?_eq_getElem (by have := Hl'.out; omega)⟩
      obtain ⟨c0, c1, c2, c3⟩ := hc k e he
      obtain ⟨d0, d1, d2, d3⟩ := hc' k f hf
      have c0' := (hbel.cell (p := ⟨b, off + k * 4, none⟩) hb).trans c0
      have c1' := (hbel.cell (p := ⟨b, off + k * 4 + 1, none⟩) hb).trans c1
      have c2' := (hbel.cell (p := ⟨b, off + k * 4 + 2, none⟩) hb).trans c2
      have c3' := (hbel.cell (p := ⟨b, off + k * 4 + 3, none⟩) hb).trans c3
      have d0' := (hbel.cell (p := ⟨b', off' + k * 4, none⟩) hb').trans d0
      have d1' := (hbel.cell (p := ⟨b', off' + k * 4 + 1, none⟩) hb').trans d1
      have d2' := (hbel.cell (p := ⟨b', off' + k * 4 + 2, none⟩) hb').trans d2
      have d3' := (hbel.cell (p := ⟨b', off' + k * 4 + 3, none⟩) hb').trans d3
      have He := hid he; have Hf := hid hf; have Ht := hid htk
      clear c0 c1 c2 c3 d0 d1 d2 d3 hc hc' he hf htk
      have n38 := ne38 e f
      have g38' := g38
      go_wp2_with fail
      go_big_quiet (fail)
      clear n38
      go_wp2_with fail
      · have hne : (!decide (e = f)) = true := by assumption
        go_ret
        exact ⟨ret_bool (by rw [decide_eq_false (fun h => by subst h; rw [He.out] at Hf; have := Hf.out; simp at this; subst this; simp at hne)]), (⟨hbel.os, hbel.tape, hbel.output, hbel.size, hbel.block⟩ : Below _ _ (wr.drewN nq))⟩
      · have hne : (!decide (e = f)) = false := by assumption
        go_roundw
        case rel => exact ⟨k + 1, by omega, by go_num, (⟨hbel.os, hbel.tape, hbel.output, hbel.size, hbel.block⟩ : Below _ _ (wr.drewN nq)), by rw [List.take_add_one, List.take_add_one, He.out, Hf.out, Ht.out, show e = f by simpa using hne]⟩
        case measure => simp [intOf]; omega
    · obtain rfl : k = n := by omega
      go_wp2_with fail
      go_ret
      exact ⟨ret_bool (by rw [List.take_of_length_le (by rw [Hl.out]; omega), List.take_of_length_le (by rw [Hl'.out]; omega)] at htk; simp [htk]), hbel⟩
theorem same_len (A A' : Option Addr) (n n' c c' : Nat) (w : World) (h : n ≠ n') :
    Calls Try.prog 13 #[.slice A n c, .slice A' n' c'] w fun e w' => e = .returned (.bool false) ∧ w = w' := by
  have t : ((n : Int) != (n' : Int)) = true := by simp; omega
  have t' : ((n : Int) == (n' : Int)) = false := by simp; omega
  go_enter Try.func13, Try.ntmps13
  go_wp2_with fail
  go_ret
  exact ⟨rfl, rfl⟩
theorem same_zero (A A' : Option Addr) (c c' : Nat) (w : World) :
    Calls Try.prog 13 #[.slice A 0 c, .slice A' 0 c'] w fun e w' => e = .returned (.bool true) ∧ w = w' := by
  go_enter Try.func13, Try.ntmps13
  go_wp2_with fail
  refine wp_loop_rounds 1 ?_
  rw [rounds_succ]
  go_wp2_with fail
  go_ret
  exact ⟨rfl, rfl⟩
theorem same_all (A A' : Option Addr) (n n' c c' : Nat) (l l' : List Ent) (w : World) (hr : REnt w w.heap.size A n l) (hr' : REnt w w.heap.size A' n' l') (hm : n ≤ 100000) :
    Calls Try.prog 13 #[.slice A n c, .slice A' n' c'] w fun e w' => e = .returned (.bool (decide (l = l'))) ∧ Below w.heap.size w w' := by
  by_cases h : n = n'
  · subst h
    rcases Nat.eq_zero_or_pos n with rfl | h0
    · have e1 : l = [] := List.length_eq_zero_iff.1 hr.1
      have e2 : l' = [] := List.length_eq_zero_iff.1 hr'.1
      refine (same_zero A A' c c' w).mono fun e w' ⟨h1, h2⟩ => ⟨by rw [h1, e1, e2]; rfl, h2 ▸ Below.refl _ _⟩
    · exact same_any A A' n c c' l l' w hr hr' h0 hm
  · refine (same_len A A' n n' c c' w h).mono fun e w' ⟨h1, h2⟩ => ⟨by rw [h1, decide_eq_false (fun h3 => h (by rw [← hr.1, ← hr'.1, h3]))], h2 ▸ Below.refl _ _⟩
end Go.Proofs.Ytihbpggoieieoaa
