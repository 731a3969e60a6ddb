/- Cut out of PlQ. -/
import Derived.Test.YtcmkcloapenpnaaDoorPlP
import Derived.Test.YtcmkcloapenpnaaDoorPlK
namespace Go.Proofs.YtcmkcloapenpnaaDoor
open Go.RowKit
set_option maxHeartbeats 12800000
set_option maxRecDepth 100000
theorem fair_short {r : Rul} (h : Fair r) : Short r.x := ⟨by have := h.via; omega, by have := h.nds; omega, by have := h.lks; omega, by have := h.cls; omega⟩
theorem parse_err {s : List UInt8} {L : List Rul} {a e : Int} (h : parseS s = (L, a, e)) (he : e ≠ 0) : L = [] := by
  obtain ⟨l, a', e', hs⟩ : ∃ l a e, splitS s = (l, a, e) := ⟨_, _, _, rfl⟩
  by_cases he' : e' = 0
  · subst he'
    obtain ⟨R, hR⟩ : ∃ R, rulesA (Kd l 0) = R := ⟨_, rfl⟩
    cases R with
    | error x =>
      unfold parseS at h
      rw [hs] at h
      simp only [if_pos] at h
      rw [show l.map era = Kd l 0 by simp [Kd], hR] at h
      simp only [Prod.mk.injEq] at h
      exact h.1.symm
    | ok done =>
      rw [parse_ok hs hR] at h
      split at h
      · simp only [Prod.mk.injEq] at h; exact h.1.symm
      · simp only [Prod.mk.injEq] at h; exact absurd h.2.2.symm he
  · unfold parseS at h
    rw [hs] at h
    simp only [if_neg he'] at h
    simp only [Prod.mk.injEq] at h
    exact h.1.symm
theorem showR_len {r : Rul} (h : Fair r) : (showR r).length ≤ 1000000 := by
  have hn := h.nums
  have h1 := dec31 hn.pri
  have h2 := dec31 hn.frm
  have h3 := dec31 hn.too
  have h4 := showLs_len (wordL 0) r.x.via hn.via
  have h5 := showLs_len (wordL 1) r.x.nds hn.nds
  have h6 := showLs_len (wordL 2) r.x.lks hn.lks
  have h7 := showLs_len (wordL 3) r.x.cls hn.cls
  have h8 := showN_len (wordL 4) r.x.bnd hn.bnd
  have h9 := showN_len (wordL 7) r.m.pr hn.pr
  have h10 := showN_len (wordL 8) r.m.sp hn.sp
  have h11 := showN_len (wordL 9) r.m.dp hn.dp
  obtain ⟨ha, hb⟩ := src_lt hn
  have h12 := showS_len r.m.sa r.m.sl ha
  have h13 := showS_len r.m.da r.m.dl hb
  have hP : ∀ (name : List UInt8) (a : Nat) (n : Int), (showS a n).length ≤ 100 → (prefR name a n).length ≤ name.length + 102 := by
    intro name a n hh
    unfold prefR
    split
    · simp only [List.length_append, List.length_cons, List.length_nil]; omega
    · simp
  have h14 := hP (wordL 5) _ _ h12
  have h15 := hP (wordL 6) _ _ h13
  have hw : ∀ i, (wordL i).length ≤ 20 := by
    intro i
    unfold wordL
    split <;> decide
  have v1 := h.via; have v2 := h.nds; have v3 := h.lks; have v4 := h.cls; have v5 := h.name
  have w0 := hw 0; have w1 := hw 1; have w2 := hw 2; have w3 := hw 3; have w4 := hw 4; have w5 := hw 5; have w6 := hw 6; have w7 := hw 7; have w8 := hw 8; have w9 := hw 9; have w10 := hw 10
  have hst : (if r.strict then [32] ++ wordL 10 else ([] : List UInt8)).length ≤ 21 := by
    split
    · simp only [List.length_append, List.length_cons, List.length_nil]; omega
    · simp
  unfold showR headR listR portR
  simp only [List.length_append, List.length_cons, List.length_nil] at *
  omega
theorem showAll_len : ∀ (L : List Rul), (∀ r ∈ L, Fair r) → (showAll L).length ≤ L.length * 1000000 := by
  intro L
  induction L with
  | nil => intro _; exact Nat.zero_le _
  | cons r L ih =>
    intro h
    have h1 := showR_len (h r (by simp))
    have h2 := ih fun q hq => h q (by simp [hq])
    have e : showAll (r :: L) = showR r ++ showAll L := by unfold showAll; rw [List.flatMap_cons]
    rw [e, List.length_append, List.length_cons]
    omega
theorem same_of {L : List Rul} {m : Nat} (_hL : L.length = m) (hm : m ≤ 1000000) (hf : ∀ r ∈ L, Short r.x) (A A' : Option Addr) (c c' : Nat) (qs qs' : List (Rul × WSl)) (w : World) (h1 : qs.map (·.1) = L) (h2 : qs'.map (·.1) = L) (h : RRul w A m c qs) (h' : RRul w A' m c' qs') :
    Calls Tryd.prog 21 #[.slice A m c, .slice A' m c'] w fun e w' => e = .returned (.bool true) ∧ Below w.heap.size w w' :=
  sameRules_any A A' m c c' qs qs' w h h' (by rw [h1, h2]) (fun q hq => hf _ (by rw [← h1]; exact List.mem_map.2 ⟨q, hq, rfl⟩)) hm
end Go.Proofs.YtcmkcloapenpnaaDoor
