/- PolicyTells. -/
import Derived.Test.YtcmkcloapenpnaaGreatDoorPlP
import Derived.Test.YtcmkcloapenpnaaGreatDoorPlK
namespace Go.Proofs.YtcmkcloapenpnaaGreatDoor
open Go.RowKit
set_option maxHeartbeats 6400000
set_option maxRecDepth 100000
theorem fair_short {r : Rul} (h : Fair r) : Short r.x := ⟨by have := h.via; omega, by have := h.nds; omega, by have := h.lks; omega, by have := h.cls; omega⟩
theorem parse_err {s : List UInt8} {L : List Rul} {a e : Int} (h : parseS s = (L, a, e)) (he : e ≠ 0) : L = [] := by
  obtain ⟨l, a', e', hs⟩ : ∃ l a e, splitS s = (l, a, e) := ⟨_, _, _, rfl⟩
  by_cases he' : e' = 0
  · subst he'
    obtain ⟨R, hR⟩ : ∃ R, rulesA (Kd l 0) = R := ⟨_, rfl⟩
    cases R with
    | error x =>
      unfold parseS at h
      rw [hs] at h
      simp only [if_pos] at h
      rw [show l.map era = Kd l 0 by simp [Kd], hR] at h
      simp only [Prod.mk.injEq] at h
      exact h.1.symm
    | ok done =>
      rw [parse_ok hs hR] at h
      split at h
      · simp only [Prod.mk.injEq] at h; exact h.1.symm
      · simp only [Prod.mk.injEq] at h; exact absurd h.2.2.symm he
  · unfold parseS at h
    rw [hs] at h
    simp only [if_neg he'] at h
    simp only [Prod.mk.injEq] at h
    exact h.1.symm
theorem showR_len {r : Rul} (h : Fair r) : (showR r).length ≤ 1000000 := by
  have hn := h.nums
  have h1 := dec31 hn.pri
  have h2 := dec31 hn.frm
  have h3 := dec31 hn.too
  have h4 := showLs_len (wordL 0) r.x.via hn.via
  have h5 := showLs_len (wordL 1) r.x.nds hn.nds
  have h6 := showLs_len (wordL 2) r.x.lks hn.lks
  have h7 := showLs_len (wordL 3) r.x.cls hn.cls
  have h8 := showN_len (wordL 4) r.x.bnd hn.bnd
  have h9 := showN_len (wordL 7) r.m.pr hn.pr
  have h10 := showN_len (wordL 8) r.m.sp hn.sp
  have h11 := showN_len (wordL 9) r.m.dp hn.dp
  obtain ⟨ha, hb⟩ := src_lt hn
  have h12 := showS_len r.m.sa r.m.sl ha
  have h13 := showS_len r.m.da r.m.dl hb
  have hP : ∀ (name : List UInt8) (a : Nat) (n : Int), (showS a n).length ≤ 100 → (prefR name a n).length ≤ name.length + 102 := by
    intro name a n hh
    unfold prefR
    split
    · simp only [List.length_append, List.length_cons, List.length_nil]; omega
    · simp
  have h14 := hP (wordL 5) _ _ h12
  have h15 := hP (wordL 6) _ _ h13
  have hw : ∀ i, (wordL i).length ≤ 20 := by
    intro i
    unfold wordL
    split <;> decide
  have v1 := h.via; have v2 := h.nds; have v3 := h.lks; have v4 := h.cls; have v5 := h.name
  have w0 := hw 0; have w1 := hw 1; have w2 := hw 2; have w3 := hw 3; have w4 := hw 4; have w5 := hw 5; have w6 := hw 6; have w7 := hw 7; have w8 := hw 8; have w9 := hw 9; have w10 := hw 10
  have hst : (if r.strict then [32] ++ wordL 10 else ([] : List UInt8)).length ≤ 21 := by
    split
    · simp only [List.length_append, List.length_cons, List.length_nil]; omega
    · simp
  unfold showR headR listR portR
  simp only [List.length_append, List.length_cons, List.length_nil] at *
  omega
theorem showAll_len : ∀ (L : List Rul), (∀ r ∈ L, Fair r) → (showAll L).length ≤ L.length * 1000000 := by
  intro L
  induction L with
  | nil => intro _; exact Nat.zero_le _
  | cons r L ih =>
    intro h
    have h1 := showR_len (h r (by simp))
    have h2 := ih fun q hq => h q (by simp [hq])
    have e : showAll (r :: L) = showR r ++ showAll L := by unfold showAll; rw [List.flatMap_cons]
    rw [e, List.length_append, List.length_cons]
    omega
theorem same_of {L : List Rul} {m : Nat} (_hL : L.length = m) (hm : m ≤ 1000000) (hf : ∀ r ∈ L, Short r.x) (A A' : Option Addr) (c c' : Nat) (qs qs' : List (Rul × WSl)) (w : World) (h1 : qs.map (·.1) = L) (h2 : qs'.map (·.1) = L) (h : RRul w A m c qs) (h' : RRul w A' m c' qs') :
    Calls Tryz.prog 7 #[.slice A m c, .slice A' m c'] w fun e w' => e = .returned (.bool true) ∧ Below w.heap.size w w' :=
  sameRules_any A A' m c c' qs qs' w h h' (by rw [h1, h2]) (fun q hq => hf _ (by rw [← h1]; exact List.mem_map.2 ⟨q, hq, rfl⟩)) hm
theorem ptells_any {LL : World → Prop} (h : PolicySpec LL 5 9) (s : List UInt8) (w : World) (hLL : LL w) (hs : s.length ≤ 9223372036854775807) : Calls Tryz.prog 3 #[.string (txt s)] w fun e w' => e = .returned (.bool true) ∧ Below w.heap.size w w' := by
  have HA := hid (alive13 h w hLL)
  have HK := hid (fun W hb => h.on w W hLL hb)
  have hsz : (txt s).size = s.length := txt_size s
  by_cases hl : 5000 < s.length
  · have t1 : decide ((5000 : Int) < (s.length : Int)) = true := by simp; omega
    clear h hs hl
    go_enter Tryz.func3, Tryz.ntmps3
    go_wp2_with (first
      | (go_at_call 4; (with_reducible refine (HA.out).mono ?_); rintro e' w1 ⟨rfl, hb1⟩))
    go_ret
    exact ⟨rfl, hb1⟩
  · have t1 : decide ((5000 : Int) < (s.length : Int)) = false := by simp; omega
    obtain ⟨L, a, e, hp⟩ : ∃ L a e, parseS s = (L, a, e) := ⟨_, _, _, rfl⟩
    obtain ⟨m, hm⟩ : ∃ m, L.length = m := ⟨_, rfl⟩
    have H1 := hid (fun W (hW : LL W) => parse_out hp hm (h.parse s W hW (by omega)))
    have H2 := hid (fun W => parse_out hp hm (parse_any s W (by omega)))
    have HN := hid (fun x W => num13_any x W)
    have t2 : (a != a) = false := by simp
    have t3 : (e != e) = false := by simp
    by_cases he : e = 0
    · subst he
      obtain ⟨h20, hfr⟩ := parse_fair hp
      have HS := hid (same_of hm (by omega) (fun r hr => fair_short (hfr r hr).1))
      obtain ⟨T, hT⟩ : ∃ T, showAll L = T := ⟨_, rfl⟩
      have hTl : T.length ≤ 100000000 := by
        have := showAll_len L fun r hr => (hfr r hr).1
        rw [hT] at this
        omega
      have HSh : Hid (∀ (A : Option Addr) (c : Nat) (qs : List (Rul × WSl)) (W : World), LL W → qs.map (·.1) = L → RRul W A m c qs → Calls Tryz.prog 9 #[.slice A m c] W fun e w' => e = .returned (.string (txt T)) ∧ Below W.heap.size W w') := by
        intro A c qs W hW hq hr
        have := h.shows A m c qs W hW hr (by omega) (fun q hm => hfr _ (by rw [← hq]; exact List.mem_map.2 ⟨q, hm, rfl⟩))
        rw [hq, hT] at this
        exact this
      have HSr : Hid (∀ (A : Option Addr) (c : Nat) (qs : List (Rul × WSl)) (W : World), qs.map (·.1) = L → RRul W A m c qs → Calls Tryz.prog 10 #[.slice A m c] W fun e w' => e = .returned (.string (txt T)) ∧ Below W.heap.size W w') := by
        intro A c qs W hq hr
        have := pShow_any A m c qs W hr (by omega) (fun q hm => (hfr _ (by rw [← hq]; exact List.mem_map.2 ⟨q, hm, rfl⟩)).1)
        rw [hq, hT] at this
        exact this
      have htl : (txt T).toList = T := txt_list T
      have hTsz : (txt T).size = T.length := txt_size T
      by_cases h10 : 10000 < T.length
      · obtain ⟨L3, a3, e3, hp3⟩ : ∃ L a e, parseS T = (L, a, e) := ⟨_, _, _, rfl⟩
        obtain ⟨m3, hm3⟩ : ∃ m, L3.length = m := ⟨_, rfl⟩
        have H3 := hid (fun W (hW : LL W) => parse_out hp3 hm3 (h.parse T W hW hTl))
        have t5 : decide ((10000 : Int) < (T.length : Int)) = true := by simp; omega
        clear h hs hp hm hfr hT hp3 hm3 h10 hl hTl h20
        go_enter Tryz.func3, Tryz.ntmps3
        go_wp2_with (first
          | (go_at_call 4; (with_reducible refine (HA.out).mono ?_); rintro e' w1 ⟨rfl, hb1⟩)
          | (go_at_call 5; (with_reducible refine (H1.out _ (HK.out _ hb1)).mono ?_); rintro e' w2 ⟨A1, c1, qs1, rfl, hq1, hr1, hb2⟩; have HQ1 := hid hq1; have HR1 := hid hr1; clear hq1 hr1)
          | (go_at_call 6; (with_reducible refine (H2.out _).mono ?_); rintro e' w3 ⟨A2, c2, qs2, rfl, hq2, hr2, hb3⟩; have HQ2 := hid hq2; have HR2 := hid hr2; clear hq2 hr2; have hd3 := hid (hb1.trans ((hb2.trans (hb3.mono hb2.size)).mono hb1.size)))
          | (go_at_call 7; (with_reducible refine (HS.out A1 A2 c1 c2 qs1 qs2 _ HQ1.out HQ2.out (HR1.out.on hb3) HR2.out).mono ?_); rintro e' w4 ⟨rfl, hb4⟩; have hd4 := hid (hd3.out.trans (hb4.mono hd3.out.size)))
          | (go_at_call 8; (with_reducible refine (HN.out _ _).mono ?_); rintro _ _ ⟨rfl, rfl⟩)
          | (go_at_call 9; (with_reducible refine (HSh.out A2 c2 qs2 _ (HK.out _ hd4.out) HQ2.out (HR2.out.on hb4)).mono ?_); rintro e' w5 ⟨rfl, hb5⟩; have hd5 := hid (hd4.out.trans (hb5.mono hd4.out.size)))
          | (go_at_call 5; (with_reducible refine (H3.out _ (HK.out _ hd5.out)).mono ?_); rintro e' w6 ⟨A3, c3, qs3, rfl, hq3, hr3, hb6⟩; have HQ3 := hid hq3; have HR3 := hid hr3; clear hq3 hr3)
          | (go_at_call 10; (with_reducible refine (HSr.out A2 c2 qs2 _ HQ2.out ((HR2.out.on hb4).on (hb5.trans (hb6.mono hb5.size)))).mono ?_); rintro e' w7 ⟨rfl, hb7⟩))
        go_ret
        exact ⟨rfl, (((((hb1.trans (hb2.mono hb1.size)).trans (hb3.mono (Nat.le_trans hb1.size hb2.size))).trans (hb4.mono (Nat.le_trans hb1.size (Nat.le_trans hb2.size hb3.size)))).trans (hb5.mono (Nat.le_trans hb1.size (Nat.le_trans hb2.size (Nat.le_trans hb3.size hb4.size))))).trans (hb6.mono (Nat.le_trans hb1.size (Nat.le_trans hb2.size (Nat.le_trans hb3.size (Nat.le_trans hb4.size hb5.size)))))).trans (hb7.mono (Nat.le_trans hb1.size (Nat.le_trans hb2.size (Nat.le_trans hb3.size (Nat.le_trans hb4.size (Nat.le_trans hb5.size hb6.size))))))⟩
      · have t5 : decide ((10000 : Int) < (T.length : Int)) = false := by simp; omega
        have hp3 : parseS T = (L, -1, 0) := by
          rw [← hT]
          exact parse_show (fun r hr => (hfr r hr).2) (fun r hr => (hfr r hr).1.nums) h20 (by rw [hT]; omega)
        have H3 := hid (fun W (hW : LL W) => parse_out hp3 hm (h.parse T W hW hTl))
        clear h hs hp hm hfr hT hp3 h10 hl hTl h20
        go_enter Tryz.func3, Tryz.ntmps3
        go_wp2_with (first
          | (go_at_call 4; (with_reducible refine (HA.out).mono ?_); rintro e' w1 ⟨rfl, hb1⟩)
          | (go_at_call 5; (with_reducible refine (H1.out _ (HK.out _ hb1)).mono ?_); rintro e' w2 ⟨A1, c1, qs1, rfl, hq1, hr1, hb2⟩; have HQ1 := hid hq1; have HR1 := hid hr1; clear hq1 hr1)
          | (go_at_call 6; (with_reducible refine (H2.out _).mono ?_); rintro e' w3 ⟨A2, c2, qs2, rfl, hq2, hr2, hb3⟩; have HQ2 := hid hq2; have HR2 := hid hr2; clear hq2 hr2; have hd3 := hid (hb1.trans ((hb2.trans (hb3.mono hb2.size)).mono hb1.size)))
          | (go_at_call 7; (with_reducible refine (HS.out A1 A2 c1 c2 qs1 qs2 _ HQ1.out HQ2.out (HR1.out.on hb3) HR2.out).mono ?_); rintro e' w4 ⟨rfl, hb4⟩; have hd4 := hid (hd3.out.trans (hb4.mono hd3.out.size)))
          | (go_at_call 8; (with_reducible refine (HN.out _ _).mono ?_); rintro _ _ ⟨rfl, rfl⟩)
          | (go_at_call 9; (with_reducible refine (HSh.out A2 c2 qs2 _ (HK.out _ hd4.out) HQ2.out (HR2.out.on hb4)).mono ?_); rintro e' w5 ⟨rfl, hb5⟩; have hd5 := hid (hd4.out.trans (hb5.mono hd4.out.size)))
          | (go_at_call 5; (with_reducible refine (H3.out _ (HK.out _ hd5.out)).mono ?_); rintro e' w6 ⟨A3, c3, qs3, rfl, hq3, hr3, hb6⟩; have HQ3 := hid hq3; have HR3 := hid hr3; clear hq3 hr3)
          | (go_at_call 10; (with_reducible refine (HSr.out A2 c2 qs2 _ HQ2.out ((HR2.out.on hb4).on (hb5.trans (hb6.mono hb5.size)))).mono ?_); rintro e' w7 ⟨rfl, hb7⟩)
          | (go_at_call 7; (with_reducible refine (HS.out A3 A2 c3 c2 qs3 qs2 _ HQ3.out HQ2.out (HR3.out.on hb7) (((HR2.out.on hb4).on (hb5.trans (hb6.mono hb5.size))).on hb7)).mono ?_); rintro e' w8 ⟨rfl, hb8⟩))
        go_ret
        exact ⟨rfl, ((((((hb1.trans (hb2.mono hb1.size)).trans (hb3.mono (Nat.le_trans hb1.size hb2.size))).trans (hb4.mono (Nat.le_trans hb1.size (Nat.le_trans hb2.size hb3.size)))).trans (hb5.mono (Nat.le_trans hb1.size (Nat.le_trans hb2.size (Nat.le_trans hb3.size hb4.size))))).trans (hb6.mono (Nat.le_trans hb1.size (Nat.le_trans hb2.size (Nat.le_trans hb3.size (Nat.le_trans hb4.size hb5.size)))))).trans (hb7.mono (Nat.le_trans hb1.size (Nat.le_trans hb2.size (Nat.le_trans hb3.size (Nat.le_trans hb4.size (Nat.le_trans hb5.size hb6.size))))))).trans (hb8.mono (Nat.le_trans hb1.size (Nat.le_trans hb2.size (Nat.le_trans hb3.size (Nat.le_trans hb4.size (Nat.le_trans hb5.size (Nat.le_trans hb6.size hb7.size)))))))⟩
    · have hLn := parse_err hp he
      subst hLn
      have HS := hid (same_of (L := []) hm (by have : ([] : List Rul).length = 0 := rfl; omega) (fun r hr => by cases hr))
      have t4 : (e != 0) = true := by simpa using he
      clear h hs hp hm hl he
      go_enter Tryz.func3, Tryz.ntmps3
      go_wp2_with (first
        | (go_at_call 4; (with_reducible refine (HA.out).mono ?_); rintro e' w1 ⟨rfl, hb1⟩)
        | (go_at_call 5; (with_reducible refine (H1.out _ (HK.out _ hb1)).mono ?_); rintro e' w2 ⟨A1, c1, qs1, rfl, hq1, hr1, hb2⟩; have HQ1 := hid hq1; have HR1 := hid hr1; clear hq1 hr1)
        | (go_at_call 6; (with_reducible refine (H2.out _).mono ?_); rintro e' w3 ⟨A2, c2, qs2, rfl, hq2, hr2, hb3⟩; have HQ2 := hid hq2; have HR2 := hid hr2; clear hq2 hr2; have hd3 := hid (hb1.trans ((hb2.trans (hb3.mono hb2.size)).mono hb1.size)))
        | (go_at_call 7; (with_reducible refine (HS.out A1 A2 c1 c2 qs1 qs2 _ HQ1.out HQ2.out (HR1.out.on hb3) HR2.out).mono ?_); rintro e' w4 ⟨rfl, hb4⟩; have hd4 := hid (hd3.out.trans (hb4.mono hd3.out.size)))
        | (go_at_call 8; (with_reducible refine (HN.out _ _).mono ?_); rintro _ _ ⟨rfl, rfl⟩))
      go_ret
      exact ⟨rfl, ((hb1.trans (hb2.mono hb1.size)).trans (hb3.mono (Nat.le_trans hb1.size hb2.size))).trans (hb4.mono (Nat.le_trans hb1.size (Nat.le_trans hb2.size hb3.size)))⟩
end Go.Proofs.YtcmkcloapenpnaaGreatDoor
