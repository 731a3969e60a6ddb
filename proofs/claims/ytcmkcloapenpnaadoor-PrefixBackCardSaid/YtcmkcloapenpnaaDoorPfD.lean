/- waymarkref11.Num. -/
import Derived.Test.YtcmkcloapenpnaaDoorPfC
namespace Go.Proofs.YtcmkcloapenpnaaDoor
open Go.RowKit
set_option maxHeartbeats 6400000
set_option maxRecDepth 100000
theorem num_empty (most : Nat) (w : World) : Calls Tryd.prog 26 #[.string (txt []), .int .i64 (most : Int)] w fun e w' => e = .returned (.int .i64 (numS [] most)) ∧ w = w' := by
  have hE : (txt []).toList.isEmpty = true := by rw [txt_list]; rfl
  have HV : Hid (numS [] most = -1) := by show _ = _; unfold numS; rw [if_pos (.inl rfl)]
  go_enter Tryd.func26, Tryd.ntmps26
  go_wp2_with fail
  go_ret
  exact ⟨by rw [HV.out]; rfl, rfl⟩
theorem isDig_val {x : UInt8} (h : isDig x = true) : ∃ d : Nat, x.toNat = 48 + d ∧ d ≤ 9 := by
  unfold isDig at h
  simp only [Bool.and_eq_true, decide_eq_true_eq] at h
  exact ⟨x.toNat - 48, by omega, by omega⟩
theorem valL_lt : ∀ (l : List UInt8), l.all isDig = true → valL l < 10 ^ l.length := by
  intro l
  induction hl : l.length generalizing l with
  | zero => intro _; rw [List.eq_nil_of_length_eq_zero hl]; decide
  | succ n ih =>
    intro h
    obtain ⟨a, x, rfl⟩ : ∃ a x, l = a ++ [x] := ⟨l.dropLast, l.getLast (by intro h0; rw [h0] at hl; simp at hl), (List.dropLast_concat_getLast _).symm⟩
    rw [List.all_append, Bool.and_eq_true] at h
    have h1 := ih a (by simpa using hl) h.1
    obtain ⟨d, h2, h3⟩ := isDig_val (by simpa using h.2)
    rw [valL_snoc, h2, Nat.pow_succ]; omega
theorem num_wrap (v d : Nat) (hv : v < 10000000000) (hd : d ≤ 9) : wrap64 (wrap64 (10 * (v : Int)) + (48 + (d : Int) - 48)) = ((10 * v + d : Nat) : Int) := by
  rw [IntWalk.wrap64_in (10 * (v : Int)) (by omega), IntWalk.wrap64_in _ (by omega)]; omega
theorem num_in (L : List UInt8) (most : Nat) (w : World) (h0 : L ≠ []) (hl : L.length ≤ 1000000) : Calls Tryd.prog 26 #[.string (txt L), .int .i64 (most : Int)] w fun e w' => e = .returned (.int .i64 (numS L most)) ∧ w = w' := by
  obtain ⟨m, hm⟩ : ∃ m, L.length = m := ⟨_, rfl⟩
  have hm0 : 0 < m := by rw [← hm]; exact List.length_pos_iff.2 h0
  have hE : (txt L).toList.isEmpty = false := by rw [txt_list]; simpa using h0
  have hZ : (txt L).size = m := by rw [txt_size, hm]
  have HX := hid (fun (i : Nat) (x : UInt8) (h : L[i]? = some x) => run_at L i x h)
  have HN := hid (fun h => (by unfold numS; rw [if_pos h] : numS L most = -1))
  obtain ⟨x0, hx0⟩ : ∃ x, L[0]? = some x := ⟨L[0]'(by omega), List.getElem?_eq_getElem _⟩
  have hx : ∀ W : World, (Instr.index 9 (.string (txt L)) (.int .i64 0)).run Tryd.prog W = .ok (.int .u8 (x0.toNat : Int)) W := HX.out 0 x0 hx0
  have hhead : L.head? = some x0 := by rw [List.head?_eq_getElem?, hx0]
  by_cases c1 : 10 < m
  · have u1 : decide ((10 : Int) < (m : Int)) = true := decide_eq_true (by omega)
    have HV := hid (HN.out (.inr (.inl (by omega))))
    clear h0 c1
    go_enter Tryd.func26, Tryd.ntmps26
    go_wp2_with fail
    go_ret
    exact ⟨by rw [HV.out]; rfl, rfl⟩
  have u1 : decide ((10 : Int) < (m : Int)) = false := decide_eq_false (by omega)
  by_cases c2 : x0 = 48 ∧ 1 < m
  · have u2 : ((x0.toNat : Int) == 48) = true := by rw [c2.1]; rfl
    have u3 : decide ((1 : Int) < (m : Int)) = true := decide_eq_true (by omega)
    have HV := hid (HN.out (.inr (.inr (.inl ⟨by rw [hhead, c2.1], by omega⟩))))
    clear h0 c1 c2
    go_enter Tryd.func26, Tryd.ntmps26
    go_wp2_with fail
    go_ret
    exact ⟨by rw [HV.out]; rfl, rfl⟩
  have hfirst : (((x0.toNat : Int) == 48) = false) ∨ (((x0.toNat : Int) == 48) = true ∧ decide ((1 : Int) < (m : Int)) = false) := by
    by_cases c3 : x0 = 48
    · exact .inr ⟨by rw [c3]; rfl, decide_eq_false (by have : ¬1 < m := fun h => c2 ⟨c3, h⟩; omega)⟩
    · refine .inl (beq_eq_false_iff_ne.2 fun h => c3 ?_)
      apply UInt8.toNat_inj.1
      show x0.toNat = 48
      omega
  have HNn : Hid (L.all isDig = true → valL L ≤ most → numS L most = (valL L : Int)) := fun h1 h2 => by
    unfold numS
    rw [if_neg]
    rintro (h | h | h | h | h)
    · exact h0 h
    · omega
    · rw [hhead] at h; simp at h; exact c2 ⟨h.1, by omega⟩
    · rw [h1] at h; cases h
    · omega
  clear h0 c2 hhead
  rcases hfirst with u2 | ⟨u2, u3⟩
  all_goals
    go_enter Tryd.func26, Tryd.ntmps26
    go_wp2_with fail
    clear hx hx0 u2
    go_loopw [5, 6] (fun v i wr => ∃ k : Nat, k ≤ m ∧ i = .int .i64 k ∧ v = .int .i64 (valL (L.take k) : Int) ∧ wr = w ∧ Hid ((L.take k).all isDig = true)) (fun _ i _ => m - (intOf i).toNat)
    case atStart => exact ⟨0, Nat.zero_le _, rfl, rfl, rfl, rfl⟩
    case round =>
      obtain ⟨k, hk, rfl, rfl, hww, HQ⟩ := hrel
      have hws := hww.symm
      subst hws
      clear hww
      by_cases hlt : k < m
      · obtain ⟨x, hx⟩ : ∃ x, L[k]? = some x := ⟨L[k]'(by omega), List.getElem?_eq_getElem _⟩
        have hrx := HX.out k x hx
        have hts : L.take (k + 1) = L.take k ++ [x] := by rw [List.take_add_one, hx]; rfl
        by_cases hd : isDig x = true
        · obtain ⟨d, hd1, hd2⟩ := isDig_val hd
          have hb := valL_lt (L.take k) HQ.out
          have hb2 : 10 ^ (L.take k).length ≤ 10 ^ 10 := Nat.pow_le_pow_right (by decide) (by rw [List.length_take]; omega)
          obtain ⟨v, hv⟩ : ∃ v, valL (L.take k) = v := ⟨_, rfl⟩
          rw [hv] at hb
          have hv2 : valL (L.take (k + 1)) = 10 * v + d := by rw [hts, valL_snoc, hv, hd1]; omega
          have HQ2 : Hid ((L.take (k + 1)).all isDig = true) := by show _ = _; rw [hts, List.all_append, HQ.out]; simp [hd]
          have HW : Hid (wrap64 (wrap64 (10 * (valL (L.take k) : Int)) + (48 + (d : Int) - 48)) = (valL (L.take (k + 1)) : Int)) := by
            show _ = _
            rw [hv2, hv]; exact num_wrap v d (Nat.lt_of_lt_of_le hb (by simpa using hb2)) hd2
          rw [hd1] at hrx
          have t1 : decide (((48 + d : Nat) : Int) < 48) = false := decide_eq_false (by omega)
          have t2 : decide ((57 : Int) < ((48 + d : Nat) : Int)) = false := decide_eq_false (by omega)
          clear hd hd1 hb2 hv hv2 hts hx
          go_wp2_with fail
          go_roundw
          case rel => exact ⟨k + 1, by omega, by go_num, by rw [HW.out], by first | rfl | trivial, HQ2.out⟩
          case measure => simp [intOf]; omega
        · have HV := hid (HN.out (.inr (.inr (.inr (.inl (by rw [List.all_eq_false]; exact ⟨x, List.mem_of_getElem? hx, hd⟩))))))
          have hd2 : x.toNat < 48 ∨ 57 < x.toNat := by
            unfold isDig at hd
            simp only [Bool.and_eq_true, decide_eq_true_eq] at hd
            omega
          clear hd hts hx
          rcases hd2 with hd2 | hd2
          · have t1 : decide ((x.toNat : Int) < 48) = true := decide_eq_true (by omega)
            clear hd2
            go_wp2_with fail
            go_ret
            exact ⟨by rw [HV.out]; rfl, rfl⟩
          · have t1 : decide ((x.toNat : Int) < 48) = false := decide_eq_false (by omega)
            have t2 : decide ((57 : Int) < (x.toNat : Int)) = true := decide_eq_true (by omega)
            clear hd2
            go_wp2_with fail
            go_ret
            exact ⟨by rw [HV.out]; rfl, rfl⟩
      · obtain rfl : m = k := by omega
        have hta : L.take m = L := List.take_of_length_le (by omega)
        have HA : Hid (L.all isDig = true) := by have := HQ.out; rw [hta] at this; exact this
        rw [hta]
        by_cases hmo : most < valL L
        · have t1 : decide (most < valL L) = true := decide_eq_true hmo
          have HV := hid (HN.out (.inr (.inr (.inr (.inr hmo)))))
          clear hmo hta
          go_wp2_with fail
          go_ret
          exact ⟨by rw [HV.out]; rfl, rfl⟩
        · have t1 : decide (most < valL L) = false := decide_eq_false hmo
          have HV := hid (HNn.out HA.out (by omega))
          clear hmo hta
          go_wp2_with fail
          go_ret
          exact ⟨by rw [HV.out]; rfl, rfl⟩
theorem num_any (L : List UInt8) (most : Nat) (w : World) (hl : L.length ≤ 1000000) : Calls Tryd.prog 26 #[.string (txt L), .int .i64 (most : Int)] w fun e w' => e = .returned (.int .i64 (numS L most)) ∧ w = w' := by
  by_cases h : L = []
  · subst h; exact num_empty most w
  · exact num_in L most w h hl
end Go.Proofs.YtcmkcloapenpnaaDoor
