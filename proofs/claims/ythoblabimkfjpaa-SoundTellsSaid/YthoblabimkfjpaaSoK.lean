/- SoundTells. -/
import Derived.Test.YthoblabimkfjpaaSoJ
import Derived.Test.YthoblabimkfjpaaPlK
namespace Go.Proofs.Ythoblabimkfjpaa
open Go.RowKit
set_option maxHeartbeats 6400000
set_option maxRecDepth 100000
/-- A graph and rules as a call gets them. -/
structure GAll (w : World) (nd : Int) (A : Option Addr) (n c : Nat) (l : List Lnk) : Prop where
  row : RLnk w w.heap.size A n l
  cap : n ≤ c
  non : A = none → n = 0 ∧ c = 0
  max : n ≤ maxLen
  lo : -9223372036854775808 ≤ nd
  hi : nd ≤ 9223372036854775807
theorem wnt_short {w : World} {x : Wnt} {y : WSl} (h : WArg w x y) (hn : y.nv ≤ 20 ∧ y.nn ≤ 60 ∧ y.nl ≤ 60 ∧ y.nc ≤ 60) : Short x := by
  have h1 := h.via.row.1; have h2 := h.nds.row.1; have h3 := h.lks.row.1; have h4 := h.cls.row.1
  exact ⟨by omega, by omega, by omega, by omega⟩
theorem atS_mem {node : Int} {qs : List (Rul × WSl)} {r : Rul} (h : r ∈ atS node (qs.map (·.1))) : ∃ q ∈ qs, q.1 = r := by
  rw [← atQ_map] at h
  obtain ⟨q, hq, rfl⟩ := List.mem_map.1 h
  exact ⟨q, (atQ_mem hq).1, rfl⟩
theorem atS_len (node : Int) (qs : List (Rul × WSl)) : (atS node (qs.map (·.1))).length ≤ qs.length := by
  rw [← atQ_map, List.length_map]; exact atQ_len node qs
theorem stells_any (h : SoundSpec 16 20) (nd : Int) (A : Option Addr) (n c : Nat) (l : List Lnk) (A2 : Option Addr) (n2 c2 : Nat) (qs : List (Rul × WSl)) (node : Int) (w : World) (hg : GAll w nd A n c l) (hq : RRul w A2 n2 c2 qs) (hrng : ∀ q ∈ qs, RRng q.1) (hn2 : n2 ≤ maxLen) (hnode : I64 node) :
    Calls Try.prog 4 #[.agg #[.int .i64 nd, .slice A n c], .slice A2 n2 c2, .int .i64 node] w fun e w' => e = .returned (.bool true) ∧ Below w.heap.size w w' := by
  have HA := hid (alive14 h)
  have hS := hid (Held.start w nd A n c)
  obtain ⟨g0, g1⟩ := hS.out.cells
  have HH := hid hq
  by_cases hl : 130 < n
  · have t1 : decide ((130 : Int) < (n : Int)) = true := by simp; omega
    clear h hg hq hrng hn2 hl
    go_enter Try.func4, Try.ntmps4
    go_wp2_with (first
      | (go_at_call 14; (with_reducible refine (HA.out _).mono ?_); rintro e' w1 ⟨rfl, hb1⟩; have h1 := hS.out.next hb1; have k1 := h1.1; obtain ⟨q0, q1⟩ := h1.cells))
    go_ret
    exact ⟨rfl, h1.1⟩
  · have t1 : decide ((130 : Int) < (n : Int)) = false := by simp; omega
    have hF : ∀ W, RRul W A2 n2 c2 qs → Calls Try.prog 15 #[.slice A2 n2 c2] W fun e w' => e = .returned (.bool (qs.all fewR && decide (n2 ≤ 30))) ∧ Below W.heap.size W w' := fun W hr => few14_any A2 n2 c2 qs W hr hn2 (fun q hm => (hrng q hm).name)
    cases hb : (qs.all fewR && decide (n2 ≤ 30)) with
    | false =>
      rw [hb] at hF
      have HF := hid hF
      clear h hg hq hrng hn2 hl hF hb
      go_enter Try.func4, Try.ntmps4
      go_wp2_with (first
        | (go_at_call 14; (with_reducible refine (HA.out _).mono ?_); rintro e' w1 ⟨rfl, hb1⟩; have h1 := hS.out.next hb1; have k1 := h1.1; obtain ⟨q0, q1⟩ := h1.cells)
        | (go_at_call 15; (with_reducible refine (HF.out _ (HH.out.on k1)).mono ?_); rintro e' w2 ⟨rfl, hb2⟩; have h2 := h1.next hb2))
      go_ret
      exact ⟨rfl, h2.1⟩
    | true =>
      rw [hb] at hF
      have HF := hid hF
      simp only [Bool.and_eq_true, decide_eq_true_eq] at hb
      obtain ⟨hall, hn30⟩ := hb
      have hfew : ∀ q ∈ qs, q.1.name.length ≤ 100 ∧ q.2.nv ≤ 20 ∧ q.2.nn ≤ 60 ∧ q.2.nl ≤ 60 ∧ q.2.nc ≤ 60 := fun q hm => few_max (List.all_eq_true.1 hall q hm)
      obtain ⟨a, e, hae⟩ : ∃ a e, checkRS nd l (qs.map (·.1)) = (a, e) := ⟨_, _, rfl⟩
      have HCk : Hid (∀ W, Held w nd A n c W → Calls Try.prog 16 #[.agg #[.int .i64 nd, .slice A n c], .slice A2 n2 c2] W fun x w' => x = .returned (.tuple #[.int .i64 a, .int .i64 e]) ∧ Held w nd A n c w') := by
        intro W hh
        have := h.check nd A n c l A2 n2 c2 qs W ⟨hh.on hg.row, by omega, hg.cap, hg.non, hg.lo, hg.hi⟩ (hq.on hh.1) hn30 hrng (fun q hm => (hfew q hm).1) (fun q hm => by have := hfew q hm; omega)
        rw [hae] at this
        exact hh.calls this
      have HCr : Hid (∀ W, Held w nd A n c W → Calls Try.prog 17 #[.agg #[.int .i64 nd, .slice A n c], .slice A2 n2 c2] W fun x w' => x = .returned (.tuple #[.int .i64 a, .int .i64 e]) ∧ Held w nd A n c w') := by
        intro W hh
        have := refCheckRules_any nd A n c l A2 n2 c2 qs W (hh.on hg.row) (hq.on hh.1) (by omega) hrng (fun q hm => by have := hfew q hm; omega)
        rw [hae] at this
        exact hh.calls this
      obtain ⟨S, hSe⟩ : ∃ S, atS node (qs.map (·.1)) = S := ⟨_, rfl⟩
      obtain ⟨m, hm⟩ : ∃ m, S.length = m := ⟨_, rfl⟩
      have hm30 : m ≤ 30 := by
        have h1 := atS_len node qs
        rw [hSe, hm, hq.len] at h1
        omega
      have HAt : Hid (∀ W, RRul W A2 n2 c2 qs → Calls Try.prog 20 #[.slice A2 n2 c2, .int .i64 node] W fun x w' => ∃ A' c' ps, x = .returned (.slice A' m c') ∧ ps.map (·.1) = S ∧ RRul w' A' m c' ps ∧ Below W.heap.size W w') := by
        intro W hr
        refine (h.ats A2 n2 c2 qs node W hr hn30 hrng (fun q hm => (hfew q hm).1) (fun q hm => by have := hfew q hm; omega) hnode).mono ?_
        rintro x w' ⟨A', c', ps, rfl, h1, h2, h3⟩
        rw [hSe] at h1
        have hl : ps.length = m := by rw [← hm, ← h1, List.length_map]
        rw [hl] at h2
        exact ⟨A', c', ps, by rw [hl], h1, h2, h3⟩
      have HRf : Hid (∀ W, RRul W A2 n2 c2 qs → Calls Try.prog 21 #[.slice A2 n2 c2, .int .i64 node] W fun x w' => ∃ A' c' ps, x = .returned (.slice A' m c') ∧ ps.map (·.1) = S ∧ RRul w' A' m c' ps ∧ Below W.heap.size W w') := by
        intro W hr
        refine (refAt_any A2 n2 c2 qs node W hr (by omega)).mono ?_
        rintro x w' ⟨A', c', rfl, h2, h3⟩
        have h1 : (atQ node qs).map (·.1) = S := by rw [atQ_map, hSe]
        have hl : (atQ node qs).length = m := by rw [← hm, ← h1, List.length_map]
        rw [hl] at h2
        exact ⟨A', c', _, by rw [hl], h1, h2, h3⟩
      have hshort : ∀ r ∈ S, Short r.x := by
        intro r hr
        rw [← hSe] at hr
        obtain ⟨q, hqm, rfl⟩ := atS_mem hr
        exact wnt_short (hq.wants q hqm) (hfew q hqm).2
      have HSm : Hid (∀ (A A' : Option Addr) (c c' : Nat) (ps ps' : List (Rul × WSl)) (W : World), ps.map (·.1) = S → ps'.map (·.1) = S → RRul W A m c ps → RRul W A' m c' ps' → Calls Try.prog 19 #[.slice A m c, .slice A' m c'] W fun e w' => e = .returned (.bool true) ∧ Below W.heap.size W w') :=
        fun A A' c c' ps ps' W h1 h2 h3 h4 => sameRules_any A A' m c c' ps ps' W h3 h4 (by rw [h1, h2]) (fun q hm => hshort _ (by rw [← h1]; exact List.mem_map.2 ⟨q, hm, rfl⟩)) (by omega)
      have HN := hid (fun x W => num14_any x W)
      have t2 : (a == a) = true := by simp
      have t3 : (e == e) = true := by simp
      clear h hg hq hrng hn2 hl hF hall hn30 hfew hae hSe hm hm30 hshort
      go_enter Try.func4, Try.ntmps4
      go_wp2_with (first
        | (go_at_call 14; (with_reducible refine (HA.out _).mono ?_); rintro e' w1 ⟨rfl, hb1⟩; have h1 := hS.out.next hb1; have k1 := h1.1; obtain ⟨q0, q1⟩ := h1.cells)
        | (go_at_call 15; (with_reducible refine (HF.out _ (HH.out.on k1)).mono ?_); rintro e' w2 ⟨rfl, hb2⟩; have h2 := h1.next hb2; obtain ⟨q2, q3⟩ := h2.cells)
        | (go_at_call 16; (with_reducible refine (HCk.out _ h2).mono ?_); rintro e' w3 ⟨rfl, h3⟩; obtain ⟨q4, q5⟩ := h3.cells)
        | (go_at_call 17; (with_reducible refine (HCr.out _ h3).mono ?_); rintro e' w4 ⟨rfl, h4⟩; have k4 := h4.1)
        | (go_at_call 18; (with_reducible refine (HN.out _ _).mono ?_); rintro _ _ ⟨rfl, rfl⟩)
        | (go_at_call 20; (with_reducible refine (HAt.out _ (HH.out.on k4)).mono ?_); rintro e' w5 ⟨A5, c5, ps5, rfl, hq5, hr5, hb5⟩; have HQ5 := hid hq5; have HR5 := hid hr5; have h5 := h4.next hb5; have k5 := h5.1; clear hq5 hr5)
        | (go_at_call 21; (with_reducible refine (HRf.out _ (HH.out.on k5)).mono ?_); rintro e' w6 ⟨A6, c6, ps6, rfl, hq6, hr6, hb6⟩; have HQ6 := hid hq6; have HR6 := hid hr6; have h6 := h5.next hb6; clear hq6 hr6)
        | (go_at_call 19; (with_reducible refine (HSm.out A5 A6 c5 c6 ps5 ps6 _ HQ5.out HQ6.out (HR5.out.on hb6) HR6.out).mono ?_); rintro e' w7 ⟨rfl, hb7⟩; have h7 := h6.next hb7))
      go_ret
      exact ⟨rfl, h7.1⟩
end Go.Proofs.Ythoblabimkfjpaa
