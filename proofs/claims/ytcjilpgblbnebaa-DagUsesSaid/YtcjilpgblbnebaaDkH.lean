/- dag.Count. -/
import Derived.Test.YtcjilpgblbnebaaDkG
import Derived.Test.YtcjilpgblbnebaaDkE
import Derived.StillTailTactics
namespace Go.Proofs.Ytcjilpgblbnebaa
open Go.RowKit
set_option maxHeartbeats 6400000
set_option maxRecDepth 100000
/-- A row of small numbers, by node. -/
def rowOf (N : Nat) (f : Nat → Nat) : List Int := (List.range N).map fun v => ((f v : Nat) : Int)
theorem rowOf_get {N i : Nat} {f : Nat → Nat} (h : i < N) : (rowOf N f)[i]? = some ((f i : Nat) : Int) := by
  unfold rowOf
  rw [List.getElem?_map, List.getElem?_range h]; rfl
theorem rowOf_set {N b y : Nat} {f f' : Nat → Nat} (h : ∀ v, f' v = if v = b then y else f v) : (rowOf N f).set b ((y : Nat) : Int) = rowOf N f' := by
  apply List.ext_getElem?
  intro i
  rw [List.getElem?_set]
  have hl : (rowOf N f).length = N := by simp [rowOf]
  have hl' : (rowOf N f').length = N := by simp [rowOf]
  rcases Nat.lt_or_ge i N with hi | hi
  · rw [rowOf_get hi, rowOf_get hi, h i]
    by_cases e : b = i
    · subst e; rw [if_pos rfl, if_pos rfl, hl, if_pos hi]
    · rw [if_neg e, if_neg (fun e2 => e e2.symm)]
  · rw [List.getElem?_eq_none (by omega), List.getElem?_eq_none (by omega)]
    split
    · rw [hl, if_neg (by omega)]
    · rfl
theorem rowOf_rep (N x : Nat) : List.replicate N ((x : Nat) : Int) = rowOf N (fun _ => x) := by
  apply List.ext_getElem?
  intro i
  rcases Nat.lt_or_ge i N with hi | hi
  · rw [rowOf_get hi, List.getElem?_replicate, if_pos hi]
  · rw [List.getElem?_eq_none (by simpa using hi), List.getElem?_eq_none (by simpa [rowOf] using hi)]
/-- What the steps are. -/
def StpIn (N : Nat) (L : List Stp) : Prop := ∀ s ∈ L, ∃ k a b : Nat, s = ⟨(k : Int), (a : Int), (b : Int)⟩ ∧ a < N ∧ b < N ∧ k < 240
theorem steps_stp {N : Nat} {l : List Lnk} {dn : List Bool} {S T : Nat} {vs : List Nat} (hok : GOk N l) (hS : S < N) (hT : T < N) (h : SFin N l dn S T vs) : StpIn N (stepsL N l dn (distS N l dn T) vs) := by
  intro s hs
  unfold stepsL at hs
  obtain ⟨v, hv, hs⟩ := List.mem_flatMap.1 hs
  unfold blk at hs
  obtain ⟨e, he, rfl⟩ := List.mem_map.1 hs
  obtain ⟨k, b, rfl, hk, _, _, hto, hon, _⟩ := next_us hok hS hT ((h.all v).1 hv) he
  have := hok.1
  exact ⟨k, v, b, by rw [Int.toNat_natCast, hto], ((h.all v).1 hv).1, hon.1, by omega⟩
theorem own_stps {w : World} {base m : Nat} {v : Value} {L : List Stp} (h : w.ownsRow base 54 3 v m (scells L)) (hl : L.length = m) : ∃ A cap, v = .slice A m cap ∧ m ≤ cap ∧ (0 < m → ∃ b, A = some ⟨b, 0, none⟩ ∧ base ≤ b ∧ b < w.heap.size ∧ ∀ (i : Nat) (e : Stp), L[i]? = some e → w.cell? ⟨b, i * 3, none⟩ = some (.int .i64 e.e) ∧ w.cell? ⟨b, i * 3 + 1, none⟩ = some (.int .i64 e.a) ∧ w.cell? ⟨b, i * 3 + 2, none⟩ = some (.int .i64 e.b)) := by
  subst hl
  rcases h.2 with ⟨rfl, h1⟩ | ⟨g, cap, cur, rfl, hb, hg, h2, _⟩
  · exact ⟨none, 0, by rw [h1], by omega, fun h => by omega⟩
  refine ⟨_, cap, rfl, h2, fun _ => ⟨g, rfl, hb, heap_lt hg, fun i e he => ?_⟩⟩
  obtain ⟨h1, h2, h3⟩ := scells_at he
  have k1 := h.cells (g := g) rfl _ _ h1
  have k2 := h.cells (g := g) rfl _ _ h2
  have k3 := h.cells (g := g) rfl _ _ h3
  rw [Go.WideShapes.add_plain] at k1 k2 k3
  simp only [Nat.zero_add] at k1 k2 k3
  exact ⟨k1, k2, k3⟩
/-- A row written step by step, up to step k. -/
def fAt (g : Nat → Nat → Nat) (f : Nat → Nat) (L : List Stp) (k : Nat) : Nat → Nat := (L.take k).foldl (rstep g) f
theorem fAt_step {g : Nat → Nat → Nat} {f : Nat → Nat} {L : List Stp} {k e a b : Nat} (h : L[k]? = some ⟨(e : Int), (a : Int), (b : Int)⟩) (v : Nat) : fAt g f L (k + 1) v = if v = b then g (fAt g f L k b) (fAt g f L k a) else fAt g f L k v := by
  unfold fAt
  rw [List.take_add_one, h, List.foldl_append]
  show rstep g _ _ v = _
  unfold rstep
  simp only [Int.toNat_natCast]
theorem fAt_all {g : Nat → Nat → Nat} {f : Nat → Nat} {L : List Stp} {k : Nat} (h : L.length = k) : fAt g f L k = L.foldl (rstep g) f := by
  unfold fAt
  rw [List.take_of_length_le (by omega)]
theorem fAt_le {g : Nat → Nat → Nat} {f : Nat → Nat} {L : List Stp} {c : Nat} (h0 : ∀ v, f v ≤ c) (hg : ∀ a b, b ≤ c → a ≤ c → g b a ≤ c) (k v : Nat) : fAt g f L k v ≤ c := by
  unfold fAt
  have key : ∀ (M : List Stp) (f : Nat → Nat), (∀ v, f v ≤ c) → ∀ v, (M.foldl (rstep g) f) v ≤ c := by
    intro M
    induction M with
    | nil => intro f hf v; exact hf v
    | cons s M ih =>
      intro f hf v
      refine ih _ (fun v => ?_) v
      unfold rstep
      split
      · exact hg _ _ (hf _) (hf _)
      · exact hf v
  exact key _ f h0 v
theorem waysS_in {N : Nat} {l : List Lnk} {dn : List Bool} {S T : Nat} (h : (checkS (N : Int) l).2 = 0) (hS : S < N) (hT : T < N) (h0 : 0 ≤ dAt (distS N l dn T) (S : Int)) :
    waysS (N : Int) l dn (S : Int) (T : Int) = (min (tr (nxL N l dn (distS N l dn T)) (distS N l dn T) S).1 capB, (tr (nxL N l dn (distS N l dn T)) (distS N l dn T) S).2.1, (tr (nxL N l dn (distS N l dn T)) (distS N l dn T) S).2.2, true) := by
  unfold waysS
  rw [if_pos ⟨h, by omega, by omega, by omega, by omega, by rw [Int.toNat_natCast, Int.toNat_natCast]; exact h0⟩]
  simp only [Int.toNat_natCast]
theorem waysS_no {nd : Int} {l : List Lnk} {dn : List Bool} {s t : Int} (h : NoWay nd l dn s t) : waysS nd l dn s t = (0, 0, 0, false) := by
  unfold waysS
  rw [if_neg h]
theorem count_in (N : Nat) (A : Option Addr) (n c : Nat) (l : List Lnk) (Ad : Option Addr) (n' c' : Nat) (dn : List Bool) (S T : Nat) (w : World) (hr : GArg w (N : Int) A n c l) (hd : DArg w Ad n' c' dn) (h : (checkS (N : Int) l).2 = 0) (hS : S < N) (hT : T < N) (h0 : 0 ≤ dAt (distS N l dn T) (S : Int)) :
    Calls Try.prog 10 #[.agg #[.int .i64 (N : Int), .slice A n c], .slice Ad n' c', .int .i64 (S : Int), .int .i64 (T : Int)] w fun e w' => e = .returned (.int .i64 ((min (tr (nxL N l dn (distS N l dn T)) (distS N l dn T) S).1 capB : Nat) : Int)) ∧ Below w.heap.size w w' := by
  have hok := gok_of h
  have hnd : N ≤ 40 := hok.2.2.1
  have hSt := Held.start w (N : Int) A n c
  have HSp : Hid (Calls Try.prog 21 #[.agg #[.int .i64 (N : Int), .slice A n c], .slice Ad n' c', .int .i64 (S : Int), .int .i64 (T : Int)] (w.alloc (.cells #[.int .i64 (N : Int), .slice A n c] 24)) fun e w' => ∃ v L m, e = .returned (.tuple #[v, .bool true]) ∧ StpIn N L ∧ L.foldl (rstep (fun b a => min (b + a) capB)) (fun v => if v = S then 1 else 0) T = min (tr (nxL N l dn (distS N l dn T)) (distS N l dn T) S).1 capB ∧ w'.ownsRow (w.heap.size + 1) 54 3 v m (scells L) ∧ L.length = m ∧ m ≤ 9600 ∧ Held w (N : Int) A n c w') := by
    refine (steps_in N A n c l Ad n' c' dn S T _ (hr.on hSt.1) (hd.on hSt.1) h hS hT h0).mono ?_
    rintro e w' ⟨v, vs, rfl, hf, hown, hl, hb⟩
    rw [size_alloc_eq] at hown
    exact ⟨v, _, _, rfl, steps_stp hok hS hT hf, row_cnt hok hS hT hf h0, hown, rfl, hl, hSt.next hb⟩
  obtain ⟨g0, g1⟩ := hSt.cells
  obtain ⟨X, hX⟩ : ∃ X, min (tr (nxL N l dn (distS N l dn T)) (distS N l dn T) S).1 capB = X := ⟨_, rfl⟩
  rw [hX] at HSp ⊢
  obtain ⟨i5, hi, hz0, hz1, hz2⟩ := info_parts (show (Try.prog.info? 3).map (fun i => (i.zero, i.size, i.bytes)) = some (some (.int .i64 0), 1, 8) by kernel_rfl)
  have Ai := hid hi; have Az0 := hid hz0; have Az1 := hid hz1; have Az2 := hid hz2
  clear hi hz0 hz1 hz2 hr hd h h0 hok hX
  go_enter Try.func10, Try.ntmps10
  go_wp2_with (first
    | (go_at_call 21; (with_reducible refine HSp.out.mono ?_); rintro e' w1 ⟨v1, L, m, rfl, hin, hfin, hown1, hLm, hm, h1⟩; obtain ⟨AL, cL, rfl, hmc, hcL⟩ := own_stps hown1 hLm; obtain ⟨g2, g3⟩ := h1.cells; have HIn := hid hin; have HFin := hid hfin; have HLm := hid hLm; have HcL := hid hcL; clear hin hfin hown1 hLm hcL)
    | (at_make; refine wpList_make_full _ rfl (.tmp 25) (.tmp 25) 33 rfl w1.heap.size 3 i5 (.int .i64 0) 1 Try.underlying33 Ai.out Az0.out Az1.out _ _ _ _ N rfl rfl rfl rfl (by rw [Az2.out]; omega) (by unfold maxLen; omega) (Nat.le_refl _) ?_; intro w3 hown3 hg3; have HM3 := hid (IRow.made hown3); have b3 := grown_below hg3; have h3 := h1.next b3; have f3 := HM3.out.frozen S; have c3 := HM3.out.cell (i := S) (x := 0) (by rw [List.getElem?_replicate, if_pos hS]); clear hown3 hg3))
  obtain ⟨G, hG⟩ : ∃ G, w1.heap.size = G := ⟨_, rfl⟩
  have hwG : w.heap.size < G := by have := h1.lt; omega
  have HR4 : Hid (IRow (w3.setCell ⟨G, S, none⟩ (.int .i64 1)) G (rowOf N (fAt (fun b a => min (b + a) capB) (fun v => if v = S then 1 else 0) L 0))) := by
    rw [hG] at HM3
    have e := HM3.out.set (i := S) ((1 : Nat) : Int)
    rw [show (List.replicate N (0 : Int)) = List.replicate N ((0 : Nat) : Int) from rfl, rowOf_rep, rowOf_set (f' := fun v => if v = S then 1 else 0) (fun v => rfl)] at e
    exact e
  rw [hG] at b3
  simp only [hG]
  have HH4 : Hid (Held w (N : Int) A n c (w3.setCell ⟨G, S, none⟩ (.int .i64 1))) := h3.set hwG
  have HB4 : Hid (Below G w1 (w3.setCell ⟨G, S, none⟩ (.int .i64 1))) := b3.setCell (Nat.le_refl _) _
  have HcL2 : Hid (∀ (i : Nat) (e : Stp), L[i]? = some e → ∃ b, AL = some ⟨b, 0, none⟩ ∧ b < G ∧ w1.cell? ⟨b, i * 3, none⟩ = some (.int .i64 e.e) ∧ w1.cell? ⟨b, i * 3 + 1, none⟩ = some (.int .i64 e.a) ∧ w1.cell? ⟨b, i * 3 + 2, none⟩ = some (.int .i64 e.b)) := by
    intro i e he
    have := (List.getElem?_eq_some_iff.1 he).1
    have h4 := HLm.out
    obtain ⟨b, e1, _, e2, e3⟩ := HcL.out (by omega)
    exact ⟨b, e1, by omega, e3 i e he⟩
  clear HcL HM3 b3 h3 f3 c3 g0 g1 g2 g3 HSp hSt h1 hG
  go_loopw [13, 32] (fun _ i wr => ∃ k : Nat, k ≤ m ∧ i = .int .i64 k ∧ Hid (IRow wr G (rowOf N (fAt (fun b a => min (b + a) capB) (fun v => if v = S then 1 else 0) L k))) ∧ Hid (Held w (N : Int) A n c wr) ∧ Hid (Below G w1 wr)) (fun _ i _ => m - (intOf i).toNat)
  case atStart => exact ⟨0, Nat.zero_le _, rfl, HR4, HH4, HB4⟩
  case round =>
    obtain ⟨k, hk, rfl, HRw, HHw, HBw⟩ := hrel
    by_cases hlt : k < m
    · obtain ⟨s, hs⟩ : ∃ s, L[k]? = some s := ⟨L[k]'(by rw [HLm.out]; exact hlt), List.getElem?_eq_getElem _⟩
      obtain ⟨e, a, b, rfl, ha, hb, _⟩ := HIn.out s (List.mem_of_getElem? hs)
      obtain ⟨bl, rfl, hbl, q0, q1, q2⟩ := HcL2.out k _ hs
      simp only at q0 q1 q2
      have r0 := (HBw.out.cell (p := ⟨bl, k * 3, none⟩) hbl).trans q0
      have r1 := (HBw.out.cell (p := ⟨bl, k * 3 + 1, none⟩) hbl).trans q1
      have r2 := (HBw.out.cell (p := ⟨bl, k * 3 + 2, none⟩) hbl).trans q2
      have Hstep := hid (fun v => fAt_step (g := fun b a => min (b + a) capB) (f := fun v => if v = S then 1 else 0) hs v)
      have hba := fAt_le (g := fun b a => min (b + a) capB) (f := fun v => if v = S then 1 else 0) (L := L) (c := capB) (fun v => by split <;> (unfold capB; omega)) (fun a b _ _ => Nat.min_le_right _ _) k
      have Ha := hba a
      have Hb := hba b
      obtain ⟨F, hF⟩ : ∃ F, fAt (fun b a => min (b + a) capB) (fun v => if v = S then 1 else 0) L k = F := ⟨_, rfl⟩
      rw [hF] at HRw Hstep Ha Hb
      obtain ⟨wq, hwq⟩ : ∃ wq, wr.alloc (.cells #[.int .i64 (e : Int), .int .i64 (a : Int), .int .i64 (b : Int)] 54) = wq := ⟨_, rfl⟩
      have ba : Below wr.heap.size wr wq := by rw [← hwq]; exact Below.alloc (Below.refl _ _) (Nat.le_refl _) _
      have hbx : wq.heap[wr.heap.size]? = some (.cells #[.int .i64 (e : Int), .int .i64 (a : Int), .int .i64 (b : Int)] 54 (0, 0)) := by rw [← hwq]; exact heap_alloc_new _ _
      have z1 : wq.cell? ⟨wr.heap.size, 1, none⟩ = some (.int .i64 (a : Int)) := by rw [cell_of_row _ _ _ _ _ _ hbx]; rfl
      have z2 : wq.cell? ⟨wr.heap.size, 2, none⟩ = some (.int .i64 (b : Int)) := by rw [cell_of_row _ _ _ _ _ _ hbx]; rfl
      have HRq := hid (HRw.out.on ba)
      have cA := HRq.out.cell (rowOf_get (f := F) ha)
      have cB := HRq.out.cell (rowOf_get (f := F) hb)
      have fB := HRq.out.frozen b
      have HHq := hid (HHw.out.next ba)
      have HBq := hid (HBw.out.trans (ba.mono (Nat.le_of_lt HRw.out.lt)))
      clear hs q0 q1 q2 hba hF hbx
      have e1 : (a : Int) < (N : Int) := by omega
      have e2 : (b : Int) < (N : Int) := by omega
      have hw1 : IntKind.i64.wrap ((F b : Int) + (F a : Int)) = (F b : Int) + (F a : Int) := by unfold capB at Ha Hb; rw [IntKind.wrap_i64]; omega
      go_wp2_with fail
      go_still_tail 16, (by kernel_rfl)
      change wpList _ _ _ _ _ wq.drew
      have HRd : Hid (IRow wq.drew G (rowOf N F)) := HRq
      have HHd : Hid (Held w (N : Int) A n c wq.drew) := HHq.out.drew
      have HBd : Hid (Below G w1 wq.drew) := HBq.out.drew
      have cB1 : wq.drew.cell? ⟨G, b, none⟩ = some (.int .i64 (F b : Int)) := cB
      have fB1 : wq.drew.frozen? ⟨G, b, none⟩ = false := fB
      obtain ⟨wd, hwd⟩ : ∃ wd, wq.drew = wd := ⟨_, rfl⟩
      rw [hwd] at HRd HHd HBd cB1 fB1 ⊢
      clear hwd hwq ba z1 z2 cA cB fB HRq HHq HBq
      have HS1 : Hid (∀ y : Int, y = ((min (F b + F a) capB : Nat) : Int) → IRow (wd.setCell ⟨G, b, none⟩ (.int .i64 y)) G (rowOf N (fAt (fun b a => min (b + a) capB) (fun v => if v = S then 1 else 0) L (k + 1)))) := by
        rintro _ rfl
        have h5 := HRd.out.set (i := b) ((min (F b + F a) capB : Nat) : Int)
        rw [rowOf_set (f' := fAt (fun b a => min (b + a) capB) (fun v => if v = S then 1 else 0) L (k + 1)) Hstep.out] at h5
        exact h5
      have Hv : Hid ((if (1099511627776 : Int) < (F b : Int) + (F a : Int) then 1099511627776 else (F b : Int) + (F a : Int)) = ((min (F b + F a) capB : Nat) : Int)) := by
        show _ = _
        unfold capB
        split <;> omega
      go_wp2_with fail
      go_roundw
      case rel => exact ⟨k + 1, by omega, by go_num, HS1.out _ Hv.out, HHd.out.set hwG, HBd.out.setCell (Nat.le_refl _) _⟩
      case measure => simp [intOf]; omega
    · obtain rfl : k = m := by omega
      have HF2 : Hid (fAt (fun b a => min (b + a) capB) (fun v => if v = S then 1 else 0) L k T = X) := by
        show _ = _
        rw [fAt_all HLm.out]
        exact HFin.out
      have cT := HRw.out.cell (rowOf_get (f := fAt (fun b a => min (b + a) capB) (fun v => if v = S then 1 else 0) L k) hT)
      rw [HF2.out] at cT
      have e2 : (T : Int) < (N : Int) := by omega
      go_wp2_with fail
      go_ret
      exact ⟨rfl, HHw.out.1⟩
theorem dagCount_any : ∀ (nd : Int) (A : Option Addr) (n c : Nat) (l : List Lnk) (Ad : Option Addr) (n' c' : Nat) (dn : List Bool) (s t : Int) (w : World), GArg w nd A n c l → DArg w Ad n' c' dn → (-9223372036854775808 ≤ s ∧ s ≤ 9223372036854775807) → (-9223372036854775808 ≤ t ∧ t ≤ 9223372036854775807) →
    Calls Try.prog 10 #[.agg #[.int .i64 nd, .slice A n c], .slice Ad n' c', .int .i64 s, .int .i64 t] w fun e w' => e = .returned (.int .i64 ((waysS nd l dn s t).1 : Int)) ∧ Below w.heap.size w w' := by
  intro nd A n c l Ad n' c' dn s t w hr hd hs ht
  by_cases hw : NoWay nd l dn s t
  · rw [waysS_no hw]
    have hSt := Held.start w nd A n c
    have HSp := hid (steps_no nd A n c l Ad n' c' dn s t _ (hr.on hSt.1) (hd.on hSt.1) hs ht hw)
    obtain ⟨g0, g1⟩ := hSt.cells
    clear hr hd hs ht hw
    go_enter Try.func10, Try.ntmps10
    go_wp2_with (go_at_call 21; (with_reducible refine HSp.out.mono ?_); rintro e' w1 ⟨rfl, hb1⟩)
    go_ret
    exact ⟨rfl, hSt.1.trans (hb1.mono hSt.1.size)⟩
  · unfold NoWay at hw
    obtain ⟨h1, h2, h3, h4, h5, h6⟩ := Classical.not_not.1 hw
    obtain ⟨N, rfl⟩ := Int.eq_ofNat_of_zero_le (show 0 ≤ nd by omega)
    obtain ⟨T, rfl⟩ := Int.eq_ofNat_of_zero_le h2
    obtain ⟨S, rfl⟩ := Int.eq_ofNat_of_zero_le h4
    rw [Int.toNat_natCast, Int.toNat_natCast] at h6
    rw [waysS_in h1 (by omega) (by omega) h6]
    exact count_in N A n c l Ad n' c' dn S T w hr hd h1 (by omega) (by omega) h6
end Go.Proofs.Ytcjilpgblbnebaa
