/- TlvTells. -/
import Derived.Test.YtddddfcalknmlaaTlA
namespace Go.Proofs.Ytddddfcalknmlaa
open Go.RowKit
set_option maxHeartbeats 6400000
set_option maxRecDepth 100000
theorem bt {a b c : World} (h1 : Below a.heap.size a b) (h2 : Below b.heap.size b c) : Below a.heap.size a c := h1.trans (h2.mono h1.size)
theorem RByt.on {a b : World} {A : Option Addr} {n : Nat} {l : List UInt8} (h : RByt a a.heap.size A n l) (hb : Below a.heap.size a b) : RByt b b.heap.size A n l := (h.below hb).more hb.size
theorem RItm.on {a b : World} {A : Option Addr} {n : Nat} {l : List Itm} (h : RItm a a.heap.size A n l) (hb : Below a.heap.size a b) : RItm b b.heap.size A n l := (h.below hb).more hb.size
theorem RPr.on {a b : World} {A : Option Addr} {n : Nat} {l : List (Int × Int)} (h : RPr a a.heap.size A n l) (hb : Below a.heap.size a b) : RPr b b.heap.size A n l := (h.below hb).more hb.size
theorem putI_le {l : List Itm} (h : lensOk l = true) : (putI l).length ≤ l.length * 65538 := by
  induction l with
  | nil => simp [putI]
  | cons e r ih =>
    simp only [lensOk, Bool.and_eq_true, decide_eq_true_eq] at h
    have := ih h.2
    rw [putI_cons, List.length_append, bytes_len, List.length_cons]
    omega
theorem outP_le (l : List Itm) : (outP l).length ≤ l.length * 65538 := by
  unfold outP
  split
  · rename_i h; exact putI_le h.2
  · simp
theorem chk_ok {l : List Itm} (h : chk l = 0) : typesOk l = true ∧ lensOk l = true := by
  unfold chk at h
  cases h1 : typesOk l with
  | false => rw [h1] at h; simp at h
  | true =>
    cases h2 : lensOk l with
    | false => rw [h1, h2] at h; simp at h
    | true => exact ⟨rfl, rfl⟩
theorem outG_le (bs : List UInt8) : (outG bs).length ≤ bs.length := by
  unfold outG
  cases h : getI bs with
  | none => simp
  | some l => have := (getI_len _ _ _ (Nat.le_refl _) h).1; simp; omega
theorem linksOf_le : ∀ (l : List Itm) (m : List (Int × Int)), linksOf l = some m → m.length ≤ l.length
  | [], m, h => by simp [linksOf] at h; subst h; simp
  | e :: r, m, h => by
    rw [linksOf] at h
    split at h
    · split at h
      · simp only [Option.map_eq_some_iff] at h
        obtain ⟨m', h1, rfl⟩ := h
        have := linksOf_le r m' h1
        simp; omega
      · cases h
    · have := linksOf_le r m h
      simp; omega
theorem outL_le (bs : List UInt8) : (outL bs).length ≤ bs.length := by
  unfold outL repI
  cases h : getI bs with
  | none => simp
  | some l =>
    have h1 := (getI_len _ _ _ (Nat.le_refl _) h).1
    cases h2 : linksOf l with
    | none => simp [h2]
    | some m => have := linksOf_le l m h2; simp [h2]; omega
theorem sameI_yes {v v' : Value} {l : List Itm} {w : World} (h : Calls Try.prog 15 #[v, v'] w fun e w' => e = .returned (.bool (sameI l l)) ∧ Below w.heap.size w w') :
    Calls Try.prog 15 #[v, v'] w fun e w' => e = .returned (.bool true) ∧ Below w.heap.size w w' := by rwa [sameI_self] at h
theorem sameP_yes {v v' : Value} {l : List (Int × Int)} {w : World} (h : Calls Try.prog 16 #[v, v'] w fun e w' => e = .returned (.bool (sameP l l)) ∧ Below w.heap.size w w') :
    Calls Try.prog 16 #[v, v'] w fun e w' => e = .returned (.bool true) ∧ Below w.heap.size w w' := by rwa [sameP_self] at h
theorem get_back {l : List Itm} {w : World} {A : Option Addr} {n : Nat} (c : Nat) (h : chk l = 0) (hl : l.length = n) (hr : RByt w w.heap.size A (outP l).length (outP l)) (hc : (outP l).length ≤ c) (hm : (outP l).length ≤ 10000000) :
    Calls Try.prog 10 #[.slice A (outP l).length c] w fun e w' => ∃ A' c', e = .returned (.tuple #[.slice A' n c', .int .i64 0]) ∧ RItm w' w'.heap.size A' n l ∧ Below w.heap.size w w' := by
  obtain ⟨h1, h2⟩ := chk_ok h
  have h3 : outP l = putI l := if_pos ⟨h1, h2⟩
  subst hl
  refine getI_yes ?_ (get_any A _ c (outP l) w hr hc hm)
  rw [h3]
  exact getI_put h1 h2

theorem tells_out (A A' : Option Addr) (n c n' c' : Nat) (w : World) (h : 60 < n ∨ 2000 < n') :
    Calls Try.prog 3 #[.slice A n c, .slice A' n' c'] w fun e w' => e = .returned (.bool true) ∧ Below w.heap.size w w' := by
  rcases (show decide ((60 : Int) < n) = true ∨ (decide ((60 : Int) < n) = false ∧ decide ((2000 : Int) < n') = true) by simp only [decide_eq_true_eq, decide_eq_false_iff_not]; omega) with h1 | ⟨h1, h2⟩ <;>
  · clear h
    go_enter Try.func3, Try.ntmps3
    go_wp2_with (go_at_call 7; (with_reducible refine (alive_any _).mono ?_); rintro e' w1 ⟨rfl, hb1⟩)
    go_ret
    exact ⟨rfl, hb1⟩
theorem tells_in (A A' : Option Addr) (n c n' c' : Nat) (l : List Itm) (bs : List UInt8) (w : World) (hr : RItm w w.heap.size A n l) (hr' : RByt w w.heap.size A' n' bs) (hA' : A' = none → n' = 0 ∧ c' = 0) (hc' : n' ≤ c') (hn : n ≤ 60) (hn' : n' ≤ 2000) :
    Calls Try.prog 3 #[.slice A n c, .slice A' n' c'] w fun e w' => e = .returned (.bool true) ∧ Below w.heap.size w w' := by
  have t1 : decide ((60 : Int) < n) = false := by simp; omega
  have t2 : decide ((2000 : Int) < n') = false := by simp; omega
  obtain ⟨i5, hi, hz0, hz1, hz2⟩ := info_parts Try.info5
  have Ai := hid hi; have Az0 := hid hz0; have Az1 := hid hz1; have Az2 := hid hz2
  clear hi hz0 hz1 hz2
  have HR := hid hr; have HR' := hid hr'; have HA' := hid hA'
  have Hl := hid hr.1
  have Hb := hid hr'.1
  have hP := outP_le l
  have hG := outG_le bs
  have hL := outL_le bs
  rw [hr.1] at hP
  rw [hr'.1] at hG hL
  clear hr hr' hA'
  go_enter Try.func3, Try.ntmps3
  go_wp2_with (go_at_call 7; (with_reducible refine (alive_any _).mono ?_); rintro e' w1 ⟨rfl, hb1⟩)
  go_loopw [6] (fun i wr => ∃ k : Nat, k ≤ n ∧ i = .int .i64 k ∧ wr = w1) (fun i _ => n - (intOf i).toNat)
  case atStart => exact ⟨0, Nat.zero_le _, rfl, rfl⟩
  case round =>
    obtain ⟨k, hk, rfl, hww⟩ := hrel
    have hws := hww.symm
    subst hws
    clear hww
    by_cases hlt : k < n
    · obtain ⟨e, he⟩ : ∃ e, l[k]? = some e := ⟨l[k]'(by rw [Hl.out]; omega), List.getElem?_eq_getElem _⟩
      obtain ⟨b, off, rfl, hb, hc⟩ := (HR.out.below hb1).2 (by omega)
      obtain ⟨c0, D, dc, c1, _⟩ := hc k e he
      clear hc he
      by_cases hq : e.data.length ≤ 300
      · have t3 : decide ((300 : Int) < (e.data.length : Int)) = false := by simp; omega
        go_wp2_with fail
        go_roundw
        case rel => exact ⟨k + 1, by omega, by go_num, by first | rfl | trivial⟩
        case measure => simp [intOf]; omega
      · have t3 : decide ((300 : Int) < (e.data.length : Int)) = true := by simp; omega
        go_wp2_with fail
        go_ret
        exact ⟨rfl, hb1⟩
    · obtain rfl : k = n := by omega
      go_wp2_with fail
      have HP := hid (putI_out (put_any A k c l w1 (HR.out.on hb1) (by omega)))
      refine HP.out.mono ?_
      rintro e' w2 ⟨Ax, cx, rfl, hrx, hcx, hb2⟩
      have HX := hid hrx
      have b2 := bt hb1 hb2
      have HP2 := hid (putI_out (refPutI_any A k c l w2 (HR.out.on b2) (by omega)))
      clear hrx HP
      go_wp2_with fail
      refine HP2.out.mono ?_
      rintro e' w3 ⟨Ay, cy, rfl, hry, hcy, hb3⟩
      have HY := hid hry
      have b3 := bt b2 hb3
      have HB3 := hid (HR'.out.on b3)
      clear hry HP2
      go_wp2_with (at_builtin; refine wpList_copy rfl (.const (.slice none 0 0)) (.tmp 59) 23 rfl w3.heap.size 5 i5 (.int .u8 0) 1 1 Try.underlying23 Ai.out Az0.out Az1.out Az2.out rfl (by decide) rfl A' n' c' (bcells bs) rfl HA'.out (by rw [bcells_len, HB3.out.1]; omega) (byt_src' HB3.out) (bcells_one _) (by unfold maxLen; omega) (by omega) (Nat.le_refl _) ?_; intro v4 w4 hown4 hb4)
      obtain ⟨A4, c4, rfl, hc4, hr4⟩ := own_byt_cap hown4
      have b4 := bt b3 hb4
      have HG := hid (getI_out (get_any A4 n' c4 bs w4 hr4 hc4 (by omega)))
      clear hown4 hr4
      refine HG.out.mono ?_
      rintro e' w5 ⟨Ap, cp, rfl, hrp, hb5⟩
      have HPp := hid hrp
      have b5 := bt b4 hb5
      have HG2 := hid (getI_out (refGet_any A' n' c' bs w5 (HR'.out.on b5) hc' (by omega)))
      clear hrp HG
      go_wp2_with fail
      refine HG2.out.mono ?_
      rintro e' w6 ⟨Aq, cq, rfl, hrq, hb6⟩
      have HQ := hid hrq
      have b6 := bt b5 hb6
      have HB6 := hid (HR'.out.on b6)
      clear hrq HG2
      go_wp2_with (at_builtin; refine wpList_copy rfl (.const (.slice none 0 0)) (.tmp 70) 23 rfl w6.heap.size 5 i5 (.int .u8 0) 1 1 Try.underlying23 Ai.out Az0.out Az1.out Az2.out rfl (by decide) rfl A' n' c' (bcells bs) rfl HA'.out (by rw [bcells_len, HB6.out.1]; omega) (byt_src' HB6.out) (bcells_one _) (by unfold maxLen; omega) (by omega) (Nat.le_refl _) ?_; intro v7 w7 hown7 hb7)
      obtain ⟨A7, c7, rfl, hc7, hr7⟩ := own_byt_cap hown7
      have b7 := bt b6 hb7
      have HL := hid (links_out (links_any A7 n' c7 bs w7 hr7 hc7 (by omega)))
      clear hown7 hr7
      refine HL.out.mono ?_
      rintro e' w8 ⟨Ar, cr, rfl, hrr, hb8⟩
      have HRr := hid hrr
      have b8 := bt b7 hb8
      have HL2 := hid (links_out (refLinks_any A' n' c' bs w8 (HR'.out.on b8) hc' (by omega)))
      clear hrr HL
      go_wp2_with fail
      refine HL2.out.mono ?_
      rintro e' w9 ⟨As, cs, rfl, hrs, hb9⟩
      have HS := hid hrs
      have b9 := bt b8 hb9
      have b59 := bt hb6 (bt hb7 (bt hb8 hb9))
      have b69 := bt hb7 (bt hb8 hb9)
      have b39 := bt hb4 (bt hb5 b59)
      have kx := conv_str (c := cx) (HX.out.on (bt hb3 b39))
      have ky := conv_str (c := cy) (HY.out.on b39)
      have HSI := hid (sameI_yes (sameItems_any Ap Aq _ _ cp cq _ _ w9 (HPp.out.on b59) (HQ.out.on b69) (by omega)))
      clear hrs HL2
      generalize outH bs = hh at *
      generalize hgg : outG bs = gg at *
      generalize outJ bs = jj at *
      generalize hlk : outL bs = lk at *
      have Hgg := hid hgg
      have Hlk := hid hlk
      clear hgg hlk
      go_wp2_with (first
        | (go_at_call 14; (with_reducible refine (num_any _ _).mono ?_); rintro e' w8 ⟨rfl, rfl⟩)
        | (go_at_call 15; (with_reducible refine HSI.out.mono ?_); rintro e' w10 ⟨rfl, hb10⟩; have HSP := hid (sameP_yes (same_any Ar As _ _ cr cs _ _ w10 (HRr.out.on (bt hb9 hb10)) (HS.out.on hb10) (by omega))))
        | (go_at_call 16; (with_reducible refine HSP.out.mono ?_); rintro e' w11 ⟨rfl, hb11⟩))
      have b11 := bt b9 (bt hb10 hb11)
      have HX11 := hid (HX.out.on (bt hb3 (bt b39 (bt hb10 hb11))))
      clear kx ky
      by_cases hE : chk l = 0
      · have u1 : (chk l == 0) = true := by simp [hE]
        have u2 : (chk l != 0) = false := by simp [hE]
        have HGx := hid (get_back cx hE Hl.out HX11.out hcx (by omega))
        clear hE
        refine HGx.out.mono ?_
        rintro e' w12 ⟨Az, cz, rfl, hrz, hb12⟩
        have b12 := bt b11 hb12
        have HSz := hid (sameI_yes (sameItems_any Az A _ _ cz c _ _ w12 hrz (HR.out.on b12) (by omega)))
        clear hrz HGx
        go_wp2_with (first
          | (go_at_call 14; (with_reducible refine (num_any _ _).mono ?_); rintro e' w8 ⟨rfl, rfl⟩)
          | (go_at_call 15; (with_reducible refine HSz.out.mono ?_); rintro e' w13 ⟨rfl, hb13⟩))
        go_ret
        exact ⟨rfl, bt b12 hb13⟩
      · have u1 : (chk l == 0) = false := by simp [hE]
        have u2 : (chk l != 0) = true := by simp [hE]
        have HGx := hid (getI_out (get_any Ax _ cx (outP l) w11 HX11.out hcx (by omega)))
        clear hE
        refine HGx.out.mono ?_
        rintro e' w12 ⟨Az, cz, rfl, _, hb12⟩
        clear HGx
        go_wp2_with (go_at_call 14; (with_reducible refine (num_any _ _).mono ?_); rintro e' w8 ⟨rfl, rfl⟩)
        go_ret
        exact ⟨rfl, bt b11 hb12⟩
theorem tells_any (A A' : Option Addr) (n c n' c' : Nat) (l : List Itm) (bs : List UInt8) (w : World) (hr : RItm w w.heap.size A n l) (hr' : RByt w w.heap.size A' n' bs) (hA' : A' = none → n' = 0 ∧ c' = 0) (hc' : n' ≤ c') :
    Calls Try.prog 3 #[.slice A n c, .slice A' n' c'] w fun e w' => e = .returned (.bool true) ∧ Below w.heap.size w w' := by
  by_cases h : 60 < n ∨ 2000 < n'
  · exact tells_out A A' n c n' c' w h
  · exact tells_in A A' n c n' c' l bs w hr hr' hA' hc' (by omega) (by omega)
end Go.Proofs.Ytddddfcalknmlaa
