/- dag.steps. -/
import Derived.Test.YtcjilpgblbnebaaDkF
import Derived.Deep.RegionHeld3
namespace Go.Proofs.Ytcjilpgblbnebaa
open Go.RowKit
set_option maxHeartbeats 6400000
set_option maxRecDepth 100000
/-- What steps answers. -/
def NoWay (nd : Int) (l : List Lnk) (dn : List Bool) (s t : Int) : Prop := ¬((checkS nd l).2 = 0 ∧ 0 ≤ t ∧ t < nd ∧ 0 ≤ s ∧ s < nd ∧ 0 ≤ dAt (distS nd.toNat l dn t.toNat) s)
/-- The state, and a row of edges that Next made. -/
structure KSo (w : World) (nd : Int) (A : Option Addr) (n c : Nat) (At : Option Addr) (N ct : Nat) (D : List Int) (G hb : Nat) (H : Nat → Bool) (T : HT) (v : Value) (L : List Stp) (A7 : Option Addr) (mE c7 : Nat) (E : List Int) (w' : World) : Prop where
  st : KSt w nd A n c At N ct D G hb H T v L w'
  edg : w'.ownsRow 0 3 1 (.slice A7 mE c7) mE (icells E)
section
variable {w w' w'' : World} {nd : Int} {A At A7 : Option Addr} {n c N ct G hb mE c7 : Nat} {D E : List Int} {H : Nat → Bool} {T : HT} {v : Value} {L : List Stp}
theorem KSo.next (h : KSo w nd A n c At N ct D G hb H T v L A7 mE c7 E w') (hb' : Below w'.heap.size w' w'') : KSo w nd A n c At N ct D G hb H T v L A7 mE c7 E w'' := ⟨h.st.next hb', own_below h.edg hb'⟩
theorem KSo.push (h : KSo w nd A n c At N ct D G hb H T v L A7 mE c7 E w') (hc : T.cnt ≤ 900000) (x y : Int) : Calls Try.prog 26 #[.pointer (some ⟨hb, 0, none⟩), .int .i64 x, .int .i64 y] w' fun e w'' =>
    e = .returned (.tuple #[]) ∧ ∃ T', KSo w nd A n c At N ct D G hb H T' v L A7 mE c7 E w'' ∧ T'.all.Perm ((x, y) :: T.all) := by
  refine (h.st.push hc x y).mono ?_
  rintro e' w'' ⟨rfl, T', hst, hp, hg⟩
  exact ⟨rfl, T', ⟨hst, h.edg.kept hg (.inr (own_none h.edg h.st.heap.1 (by decide)))⟩, hp⟩
theorem KSo.app {v' : Value} {s : Stp} {o : Obj} (h : KSo w nd A n c At N ct D G hb H T v L A7 mE c7 E w') (hg : (w'.alloc o).grownBy w'' v.ownBlock) (hown : w''.ownsRow w.heap.size 54 3 v' (L.length + 1) (scells L ++ [.int .i64 s.e, .int .i64 s.a, .int .i64 s.b])) : KSo w nd A n c At N ct D G hb H T v' (L ++ [s]) A7 mE c7 E w'' := by
  have ba : Below w'.heap.size w' (w'.alloc o) := Below.alloc (Below.refl _ _) (Nat.le_refl _) _
  exact ⟨h.st.app hg hown, (own_below h.edg ba).kept hg (own_apart (own_below h.edg ba) (own_below h.st.own ba) (by decide))⟩
theorem KSt.pot {vs : List Nat} (h : KSt w nd A n c At N ct D G hb (fun v => decide (v ∈ vs)) T v L w') : potK N w' G hb = (N - ((List.range N).filter (fun v => decide (v ∈ vs))).length) * 1000 + T.cnt := by
  unfold potK
  rw [h.heap.hpN, h.gone.trues]
end
/-- What Next gives, in the state. -/
theorem next_st {w w' : World} {nd : Int} {A At : Option Addr} {n c N ct G hb f : Nat} {D E : List Int} {H : Nat → Bool} {T : HT} {v : Value} {L : List Stp} {mE : Nat} {args : Array Value} (hmE : E.length = mE) (hc : Calls Try.prog f args w' (IntAns E w')) (h : KSt w nd A n c At N ct D G hb H T v L w') :
    Calls Try.prog f args w' fun e w'' => ∃ A7 c7, e = .returned (.slice A7 mE c7) ∧ KSo w nd A n c At N ct D G hb H T v L A7 mE c7 E w'' := by
  refine hc.mono ?_
  rintro e' w'' ⟨v, rfl, hown, hb'⟩
  rw [hmE] at hown
  obtain ⟨A', c', rfl, _, _⟩ := own_ints hown hmE
  exact ⟨A', c', rfl, h.next hb', own_mono hown (Nat.zero_le _)⟩
theorem steps_len {N : Nat} {l : List Lnk} {dn : List Bool} {D : List Int} {n : Nat} (hn : l.length ≤ n) : ∀ (vs : List Nat), (stepsL N l dn D vs).length ≤ vs.length * (2 * n) := by
  intro vs
  induction vs with
  | nil => simp [stepsL]
  | cons v vs ih =>
    have e : stepsL N l dn D (v :: vs) = blk N l dn D v ++ stepsL N l dn D vs := rfl
    have h1 : (blk N l dn D v).length ≤ 2 * n := by
      unfold blk nextS
      rw [List.length_map]
      split
      · exact Nat.le_trans (List.length_filter_le _ _) (Nat.le_trans (outS_len _ _ _) (by omega))
      · simp
    rw [e, List.length_append, List.length_cons]
    have : (vs.length + 1) * (2 * n) = vs.length * (2 * n) + 2 * n := by rw [Nat.add_mul, Nat.one_mul]
    omega
theorem blk_step {N : Nat} {l : List Lnk} {dn : List Bool} {D : List Int} {b i : Nat} {e c : Int} {E : List Int} (hE : nextS (N : Int) l dn D (b : Int) = E) (hx : E[i]? = some e) (ht : tov l e.toNat = c) : (blk N l dn D b).take (i + 1) = (blk N l dn D b).take i ++ [⟨e, (b : Int), c⟩] := by
  unfold blk
  rw [hE, List.take_add_one, List.getElem?_map, hx]
  simp [ht]
theorem steps_snoc {N : Nat} {l : List Lnk} {dn : List Bool} {D : List Int} {vs : List Nat} {b : Nat} : stepsL N l dn D (vs ++ [b]) = stepsL N l dn D vs ++ blk N l dn D b := by
  unfold stepsL
  rw [List.flatMap_append]
  simp
theorem KSt.cell {w w' : World} {nd : Int} {A : Option Addr} {n c N ct G hb g i : Nat} {D : List Int} {H : Nat → Bool} {T : HT} {v : Value} {L : List Stp} {x : Int} (h : KSt w nd A n c (some ⟨g, 0, none⟩) N ct D G hb H T v L w') (hN : 0 < N) (hx : D[i]? = some x) : w'.cell? ⟨g, i, none⟩ = some (.int .i64 x) := by
  obtain ⟨g', cap, he, _, _, hc⟩ := own_lo h.len hN
  simp only [Value.slice.injEq, Option.some.injEq, Addr.mk.injEq, true_and] at he
  obtain ⟨⟨rfl, _⟩, _⟩ := he
  exact hc i x hx
def cntV (N : Nat) (vs : List Nat) : Nat := ((List.range N).filter (fun v => decide (v ∈ vs))).length
theorem cntV_le (N : Nat) (vs : List Nat) : cntV N vs ≤ N := by
  have := List.length_filter_le (fun v => decide (v ∈ vs)) (List.range N)
  rw [List.length_range] at this
  exact this
theorem mark_eq (vs : List Nat) (b : Nat) : (fun j => if j = b then true else decide (j ∈ vs)) = fun v => decide (v ∈ vs ++ [b]) := by
  funext v
  by_cases h : v = b
  · simp [h]
  · simp [h]
theorem cntV_snoc {N b : Nat} {vs : List Nat} (hb : b < N) (h : b ∉ vs) : cntV N (vs ++ [b]) = cntV N vs + 1 :=
  filt_one (b := b) (by simp [h]) (fun j => (congrFun (mark_eq vs b) j).symm) List.nodup_range (List.mem_range.2 hb)
theorem cntV_nil (N : Nat) : cntV N [] = 0 := by unfold cntV; simp
theorem blk_len {N : Nat} {l : List Lnk} {dn : List Bool} {D : List Int} {b m : Nat} {E : List Int} (hE : nextS (N : Int) l dn D (b : Int) = E) (hm : E.length = m) : (blk N l dn D b).length = m := by
  unfold blk
  rw [hE, List.length_map, hm]
theorem steps_in (N : Nat) (A : Option Addr) (n c : Nat) (l : List Lnk) (Ad : Option Addr) (n' c' : Nat) (dn : List Bool) (S T : Nat) (w : World) (hr : GArg w (N : Int) A n c l) (hd : DArg w Ad n' c' dn) (h : (checkS (N : Int) l).2 = 0) (hS : S < N) (hT : T < N) (h0 : 0 ≤ dAt (distS N l dn T) (S : Int)) :
    Calls Try.prog 21 #[.agg #[.int .i64 (N : Int), .slice A n c], .slice Ad n' c', .int .i64 (S : Int), .int .i64 (T : Int)] w fun e w' => ∃ v vs, e = .returned (.tuple #[v, .bool true]) ∧ SFin N l dn S T vs ∧ w'.ownsRow w.heap.size 54 3 v (stepsL N l dn (distS N l dn T) vs).length (scells (stepsL N l dn (distS N l dn T) vs)) ∧ (stepsL N l dn (distS N l dn T) vs).length ≤ 9600 ∧ Below w.heap.size w w' := by
  have hok := gok_of h
  have Q : fromS (N : Int) l dn (T : Int) = distS N l dn T := by unfold fromS; rw [if_pos ⟨h, by omega, by omega⟩]; rfl
  have hSt := Held.start w (N : Int) A n c
  have hnd : N ≤ 40 := hok.2.2.1
  have HTo := hid (to_spec (N : Int) A n c l Ad n' c' dn (T : Int) _ (hr.on hSt.1) (hd.on hSt.1) (by omega) (by omega))
  rw [Q] at HTo
  obtain ⟨g0, g1⟩ := hSt.cells
  have hl := hr.row.1
  have hn : n ≤ 120 := by rw [← hl]; exact hok.1
  have hdl := (dist_ok (dn := dn) hok hT).len
  have HOn := hid (onW_first (dn := dn) hok hS hT h0)
  have HUs := hid (fun (v : Nat) (hv : OnW N l dn S T v) (e : Int) (he : e ∈ nextS (N : Int) l dn (distS N l dn T) (v : Int)) => next_us hok hS hT hv he)
  have HRg : Hid (∀ v : Nat, v < N → -1 ≤ dAt (distS N l dn T) (v : Int) ∧ dAt (distS N l dn T) (v : Int) ≤ 654311424) := fun v hv => ⟨(dist_ok (dn := dn) hok hT).low v hv, dist_top hok hT hv⟩
  have HFn := hid (fun (vs : List Nat) (hi : SInv N l dn (distS N l dn T) (OnW N l dn S T) S vs [] []) => hi.done hok hS hT)
  have HE := hid (fun (k : Nat) (hk : k < 240) (w' : World) (h : Held w (N : Int) A n c w') => ends_any (N : Int) A n c l (k : Int) w' (h.on hr.row) (by omega) (by omega))
  have HStart := hid (SInv.start (N := N) (l := l) (dn := dn) (D := distS N l dn T) HOn.out)
  have HLn := hid (fun (vs : List Nat) => steps_len (N := N) (l := l) (dn := dn) (D := distS N l dn T) (n := n) (by omega) vs)
  have HNx : Hid (∀ (b : Nat) (At : Option Addr) (ct : Nat) (w' : World), b < N → Held w (N : Int) A n c w' → w'.ownsRow 0 3 1 (.slice At N ct) N (icells (distS N l dn T)) → Calls Try.prog 29 #[.agg #[.int .i64 (N : Int), .slice A n c], .slice Ad n' c', .slice At N ct, .int .i64 (b : Int)] w' (IntAns (nextS (N : Int) l dn (distS N l dn T) (b : Int)) w')) := by
    intro b At ct w' hb hh hown
    obtain ⟨A2, c2, he, hc2, hR⟩ := own_ints hown hdl
    simp only [Value.slice.injEq, true_and] at he
    obtain ⟨rfl, rfl⟩ := he
    refine next_spec (N : Int) A n c l Ad n' c' dn At N ct (distS N l dn T) (b : Int) w' (hr.on hh.1) (hd.on hh.1) ⟨hR, by omega, hc2, fun e => ?_, fun x hx => ?_⟩ (by omega) (by omega)
    · subst e
      have := hR.2 (by omega)
      obtain ⟨_, _, h3, _⟩ := this
      cases h3
    · obtain ⟨i, hi, rfl⟩ := List.getElem_of_mem hx
      have := HRg.out i (by omega)
      have e2 := dAt_get hi
      rw [List.getElem?_eq_getElem hi, Option.some.injEq] at e2
      rw [e2]
      omega
  obtain ⟨D, hD⟩ : ∃ D, distS N l dn T = D := ⟨_, rfl⟩
  rw [hD] at HTo HUs HRg HFn HStart HLn HNx hdl h0 ⊢
  obtain ⟨ds, hds⟩ : ∃ ds, dAt D (S : Int) = ds := ⟨_, rfl⟩
  have Gs := hid (dAt_get (d := D) (v := S) (by omega))
  rw [hds] at Gs h0 HStart
  have hds2 := HRg.out S hS
  rw [hds] at hds2
  have Hds := hid hds
  have Hdl := hid hdl
  obtain ⟨On, hOn⟩ : ∃ On, OnW N l dn S T = On := ⟨_, rfl⟩
  rw [hOn] at HOn HFn HStart
  have HOnlt : Hid (∀ v, On v → v < N ∧ 0 ≤ dAt D (v : Int)) := by
    intro v hv
    rw [← hOn] at hv
    rw [← hD]
    exact ⟨hv.1, hv.2.2.1⟩
  have HUs2 : Hid (∀ (v : Nat), On v → ∀ e ∈ nextS (N : Int) l dn D (v : Int), ∃ k b : Nat, e = (k : Int) ∧ k < 2 * n ∧ frm l k = (v : Int) ∧ tov l k = (b : Int) ∧ On b ∧ dAt D (b : Int) < dAt D (v : Int) ∧ endsS l (k : Int) = ((v : Int), (b : Int), true)) := by
    intro v hv e he
    rw [← hOn] at hv
    obtain ⟨k, b, rfl, hk, _, hf, ht, hb, hlt⟩ := HUs.out v hv e he
    obtain ⟨_, _, _, _, hends, hfa, hto, _⟩ := edge_facts hok hk
    rw [hfa] at hf
    rw [hto] at ht
    exact ⟨k, b, rfl, by omega, by rw [hfa]; exact hf, by rw [hto]; exact ht, by rw [← hOn]; exact hb, hlt, by rw [hends, hf, ht]⟩
  have HOk := hid hok
  obtain ⟨i5, hi, hz0, hz1, hz2⟩ := info_parts (show (Try.prog.info? 4).map (fun i => (i.zero, i.size, i.bytes)) = some (some (.bool false), 1, 1) by kernel_rfl)
  have Ai := hid hi; have Az0 := hid hz0; have Az1 := hid hz1; have Az2 := hid hz2
  clear hi hz0 hz1 hz2
  obtain ⟨i6, hi, hz0, hz1, hz2⟩ := info_parts (show (Try.prog.info? 54).map (fun i => (i.zero, i.size, i.bytes)) = some (some (.agg #[.int .i64 0, .int .i64 0, .int .i64 0]), 3, 24) by kernel_rfl)
  have Bi := hid hi; have Bz0 := hid hz0; have Bz1 := hid hz1; have Bz2 := hid hz2
  clear hi hz0 hz1 hz2 HUs h Q hok hr hd hOn hD hds hdl
  have t1 : decide ((S : Int) < 0) = false := by simp
  have t2 : decide ((N : Int) ≤ (S : Int)) = false := by simp; omega
  have t3 : decide (ds < 0) = false := by simpa using h0
  have hneg : IntKind.i64.wrap (-ds) = -ds := by rw [IntKind.wrap_i64]; omega
  go_enter Try.func21, Try.ntmps21
  go_wp2_with (first
    | (go_at_call 25; (with_reducible refine HTo.out.mono ?_); rintro e' w1 ⟨v1, rfl, hown1, hb1⟩; rw [Hdl.out] at hown1; obtain ⟨g, ct, rfl, _, hgs, hgc⟩ := own_lo hown1 (by omega); have h1 := hSt.next hb1; obtain ⟨g2, g3⟩ := h1.cells; have cS := hgc S _ Gs.out; have HO1 := hid (own_mono hown1 (Nat.zero_le _)); clear hgc hown1; obtain ⟨p0, p1⟩ := (h1.next ((Below.refl _ _).alloc (Nat.le_refl _) (.cells #[.pointer none] 59))).cells)
    | (at_make; refine wpList_make_full _ rfl (.tmp 42) (.tmp 42) 25 rfl (w1.heap.size + 1) 4 i5 (.bool false) 1 Try.underlying25 Ai.out Az0.out Az1.out _ _ _ _ N rfl rfl rfl rfl (by rw [Az2.out]; omega) (by unfold maxLen; omega) (Nat.le_of_eq (size_alloc_eq w1 (.cells #[.pointer none] 59)).symm) ?_; intro w3 hown3 hg3; have HM3 : Hid (BRow w3 (w1.heap.size + 1) N fun _ => false) := (by have hm := BRow.made hown3; rw [size_alloc_eq] at hm; exact hm); have b3 := grown_below hg3; have c3 := ((((Below.refl _ w1).alloc (Nat.le_refl _) (.cells #[.pointer none] 59)).trans (b3.mono (Nat.le_trans (Nat.le_succ _) (Nat.le_of_eq (size_alloc_eq w1 (.cells #[.pointer none] 59)).symm)))).cell (p := ⟨g, S, none⟩) hgs).trans cS; have HK3 : Hid (KSt w (N : Int) A n c (some ⟨g, 0, none⟩) N ct D (w1.heap.size + 1) w1.heap.size (fun _ => false) .nil (.slice none 0 0) [] w3) := ⟨(h1.next ((Below.refl _ w1).alloc (Nat.le_refl _) (.cells #[.pointer none] 59))).next b3, own_below (own_below HO1.out ((Below.refl _ w1).alloc (Nat.le_refl _) (.cells #[.pointer none] 59))) b3, HM3.out, (heap_new w1).below b3, World.ownsRow_nil _ _ _ _, by have := h1.lt; omega, h1.lt⟩; have HP3 := hid (HK3.out.push (Nat.zero_le _) (-ds) (S : Int)); clear hown3 hg3 b3)
    | (go_at_call 26; (with_reducible refine HP3.out.mono ?_); rintro e' w4 ⟨rfl, T4, st4, hp4, _⟩; have HK4 := hid st4; have HP4 := hid hp4; clear st4 hp4))
  obtain ⟨hb, hhb⟩ : ∃ hb, w1.heap.size = hb := ⟨_, rfl⟩
  rw [hhb] at HK4
  simp only [hhb]
  have HK4' : Hid (KSt w (N : Int) A n c (some ⟨g, 0, none⟩) N ct D (hb + 1) hb (fun v => decide (v ∈ ([] : List Nat))) T4 (.slice none 0 0) (stepsL N l dn D []) w4) := by
    have e : (fun v => decide (v ∈ ([] : List Nat))) = fun _ => false := by funext v; simp
    rw [e]
    exact HK4.out
  have HD4 : Hid (SInv N l dn D On S [] T4.all []) := hid (HStart.out.perm (HP4.out.trans (by simp [HT.all])))
  have HC4 : Hid (T4.cnt ≤ 1 + cntV N [] * 240) := by
    show _ ≤ _
    rw [perm_cnt HP4.out]; simp [HT.all]
  clear hhb HP3 HP4 HStart HK3 HK4 HM3 HO1 HTo g0 g1 g2 g3 p0 p1 h1 hSt c3 cS hgs hneg t1 t2 t3 HOn Gs Hds hds2 h0
  go_loopw [11, 14, 15, 16] (fun lv _ _ _ wr => ∃ (vs : List Nat) (T : HT), Hid (KSt w (N : Int) A n c (some ⟨g, 0, none⟩) N ct D (hb + 1) hb (fun v => decide (v ∈ vs)) T lv (stepsL N l dn D vs) wr) ∧ Hid (SInv N l dn D On S vs T.all []) ∧ Hid (T.cnt ≤ 1 + cntV N vs * 240) ∧ Hid ((stepsL N l dn D vs).length ≤ cntV N vs * 240)) (fun _ _ _ _ wr => potK N wr (hb + 1) hb)
  case atStart => exact ⟨[], T4, HK4', HD4, HC4, Nat.zero_le _⟩
  case round =>
    obtain ⟨vs, T, HSt, HDi, HCn, HLs⟩ := hrel
    obtain ⟨e0, e1⟩ := HSt.out.held.cells
    have hlabd := cntV_le N vs
    cases T with
    | nil =>
      have HL := hid (HSt.out.count (p := 0) rfl)
      have HFF := hid (HFn.out vs HDi.out)
      go_wp2_with (go_at_call 27; (with_reducible refine HL.out.mono ?_); rintro _ _ ⟨rfl, rfl⟩)
      go_ret2
      exact ⟨_, vs, rfl, HFF.out, HSt.out.own, by have := HLs.out; omega, HSt.out.held.1⟩
    | node b0 x v m f =>
      obtain ⟨b, hOb, hxv, hmn⟩ := HDi.out.wait (x, v) (by simp [HT.all])
      simp only [Prod.mk.injEq] at hxv
      obtain ⟨hx, rfl⟩ := hxv
      obtain ⟨hbn, hb0⟩ := HOnlt.out b hOb
      obtain ⟨p, hp⟩ : ∃ p, (HT.node b0 x (b : Int) m f).cnt = p := ⟨_, rfl⟩
      have hp0 : 0 < p := by rw [← hp, HT.cnt]; omega
      have hp1 : p ≤ 1 + cntV N vs * 240 := hp ▸ HCn.out
      have HL := hid (HSt.out.count hp)
      have t0 : decide ((0 : Int) < (p : Int)) = true := by simp; omega
      have HPop := hid (HSt.out.pop (by rw [hp]; omega))
      have Hord := hid HSt.out.heap.2.2
      have HMS : Hid (potK N wr (hb + 1) hb = (N - cntV N vs) * 1000 + p) := by
        show _ = _
        rw [HSt.out.pot, hp]; rfl
      have Hle : Hid (∀ q ∈ m.all ++ f.all, x ≤ q.1) := fun q hq => by
        have := Hord.out.1 q hq
        unfold le2 at this; simp only at this; omega
      have Hp := hid hp
      have Hx := hid hx
      have HOb := hid hOb
      have Hb0 := hid hb0
      clear hp hx hOb hmn hb0
      by_cases hc : b ∈ vs
      · go_wp2_with (first
          | (go_at_call 27; (with_reducible refine HL.out.mono ?_); rintro _ _ ⟨rfl, rfl⟩)
          | (go_at_call 28; (with_reducible refine HPop.out.mono ?_); rintro e' w5 ⟨rfl, T5, hst5, hp5⟩; have HS5 := hid hst5; have HP5 := hid hp5; have c5 := hst5.gone.cell hbn; rw [decide_eq_true hc] at c5; clear hst5 hp5))
        have HDi5 : Hid (SInv N l dn D On S vs T5.all []) := ((HDi.out.skip (b := b) hc).perm HP5.out)
        have HCn5 : Hid (T5.cnt + 1 = p) := by
          show _ = _
          rw [perm_cnt HP5.out, ← Hp.out, List.length_append, HT.len, HT.len]; rfl
        go_roundw
        case rel => exact ⟨vs, T5, HS5, HDi5, by show _ ≤ _; have := HCn5.out; omega, HLs⟩
        case measure =>
          have : potK N _ (hb + 1) hb = (N - cntV N vs) * 1000 + T5.cnt := HS5.out.pot
          rw [HMS.out, this]; have := HCn5.out; omega
      · obtain ⟨htk, hmin⟩ := HDi.out.take hc Hle.out
        have hcv := cntV_snoc hbn hc
        obtain ⟨E, hE⟩ : ∃ E, nextS (N : Int) l dn D (b : Int) = E := ⟨_, rfl⟩
        obtain ⟨mE, hmE⟩ : ∃ mE, E.length = mE := ⟨_, rfl⟩
        have HBl := hid (blk_len hE hmE)
        have hmE2 : mE ≤ 240 := by
          rw [← hmE, ← hE]
          unfold nextS
          split
          · exact Nat.le_trans (List.length_filter_le _ _) (Nat.le_trans (outS_len _ _ _) (by omega))
          · simp
        have HNb := HNx.out b (some ⟨g, 0, none⟩) ct
        rw [hE] at HNb htk
        have HNb := hid HNb
        have HTk := hid htk
        have Hmin := hid hmin
        have Hcv := hid hcv
        have HE2 := hid hE
        have HmE := hid hmE
        clear htk hmin hcv hE hmE
        go_wp2_with (first
          | (go_at_call 27; (with_reducible refine HL.out.mono ?_); rintro _ _ ⟨rfl, rfl⟩)
          | (go_at_call 28; (with_reducible refine HPop.out.mono ?_); rintro e' w5 ⟨rfl, T5, hst5, hp5⟩; have HP5 := hid hp5; have c5 := hst5.gone.cell hbn; rw [decide_eq_false hc] at c5; have f5 := hst5.gone.frozen b; have st6 := hst5.mark b; rw [mark_eq] at st6; obtain ⟨q0, q1⟩ := st6.held.cells; have HO6 := hid (next_st HmE.out (HNb.out _ hbn st6.held st6.len) st6); clear hst5 hp5 st6)
          | (go_at_call 29; (with_reducible refine HO6.out.mono ?_); rintro e' w7 ⟨A7, c7, rfl, hst7⟩; have HS7 := hid hst7; clear hst7))
        have HDi7 : Hid (SInv N l dn D On S (vs ++ [b]) T5.all (E.drop 0)) := by show SInv _ _ _ _ _ _ _ _ _; rw [List.drop_zero]; exact HTk.out.perm HP5.out
        have HC7 : Hid (T5.cnt + 1 ≤ p + 0) := by
          show _ ≤ _
          rw [perm_cnt HP5.out, ← Hp.out, List.length_append, HT.len, HT.len, HT.cnt]; omega
        have HS7' : Hid (KSo w (N : Int) A n c (some ⟨g, 0, none⟩) N ct D (hb + 1) hb (fun v => decide (v ∈ vs ++ [b])) T5 u11 (stepsL N l dn D vs ++ (blk N l dn D b).take 0) A7 mE c7 E w7) := by
          rw [List.take_zero, List.append_nil]
          exact HS7.out
        clear c5 f5 q0 q1 e0 e1 HO6 HPop HL HS7
        go_loopw [11, 18, 19, 20, 21, 71] (fun lv _ _ _ _ ii wx => ∃ (i : Nat) (T6 : HT), i ≤ mE ∧ ii = .int .i64 i ∧ Hid (KSo w (N : Int) A n c (some ⟨g, 0, none⟩) N ct D (hb + 1) hb (fun v => decide (v ∈ vs ++ [b])) T6 lv (stepsL N l dn D vs ++ (blk N l dn D b).take i) A7 mE c7 E wx) ∧ Hid (SInv N l dn D On S (vs ++ [b]) T6.all (E.drop i)) ∧ Hid (T6.cnt + 1 ≤ p + i)) (fun _ _ _ _ _ ii _ => mE - (intOf ii).toNat)
        case atStart => exact ⟨0, T5, Nat.zero_le _, rfl, HS7', HDi7, HC7⟩
        case round =>
          obtain ⟨i, T6, hi, rfl, HSx, HDx, HCx⟩ := hrel
          obtain ⟨y0, y1⟩ := HSx.out.st.held.cells
          by_cases hlt : i < mE
          · obtain ⟨ei, hei⟩ : ∃ ei, E[i]? = some ei := ⟨E[i]'(by rw [HmE.out]; exact hlt), List.getElem?_eq_getElem _⟩
            obtain ⟨k, d, rfl, hk, hf, hto, hOd, hdl, hends⟩ := HUs2.out b HOb.out ei (HE2.out ▸ List.mem_of_getElem? hei)
            obtain ⟨hdn, hd0⟩ := HOnlt.out d hOd
            obtain ⟨_, _, _, _, hR7⟩ := own_ints HSx.out.edg HmE.out
            obtain ⟨b7, o7, rfl, hb7, hc7⟩ := hR7.2 (by omega)
            have cE := hc7 i _ hei
            have Hdrop : Hid (E.drop i = (k : Int) :: E.drop (i + 1)) := by
              show _ = _
              obtain ⟨hil, hie⟩ := List.getElem?_eq_some_iff.1 hei
              rw [List.drop_eq_getElem_cons hil, hie]
            have HDj := hid (SInv.edge (b := b) (Hdrop.out ▸ HDx.out) (by rw [Int.toNat_natCast]; exact hto) hOd Hmin.out (by omega))
            have Hbk := hid (blk_step (c := (d : Int)) HE2.out hei (by rw [Int.toNat_natCast]; exact hto))
            have HEk := hid (HE.out k (by omega))
            rw [hends] at HEk
            have hrg := HRg.out d hdn
            have Gd := hid (dAt_get (d := D) (v := d) (by rw [Hdl.out]; exact hdn))
            obtain ⟨dd, hdd⟩ : ∃ dd, dAt D (d : Int) = dd := ⟨_, rfl⟩
            rw [hdd] at HDj hrg Gd
            have hwr : IntKind.i64.wrap (-dd) = -dd := by rw [IntKind.wrap_i64]; omega
            have hT6 : T6.cnt ≤ 900000 := by have := HCx.out; omega
            have HLn2 : Hid ((stepsL N l dn D vs ++ (blk N l dn D b).take i).length ≤ 10000) := by
              show _ ≤ _
              have h1 := HLs.out
              have h2 := HBl.out
              rw [List.length_append, List.length_take, h2]
              omega
            obtain ⟨L, hL⟩ : ∃ L, stepsL N l dn D vs ++ (blk N l dn D b).take i = L := ⟨_, rfl⟩
            rw [hL] at HSx HLn2
            have HLL := hid hL
            clear hei hc7 hf hto hdd hends hk hdl hd0 hOd hrg hL
            go_wp2_with (first
              | (go_at_call 30; (with_reducible refine (HEk.out _ HSx.out.st.held).mono ?_); rintro e' w8 ⟨rfl, b8⟩; have HS8 := hid (HSx.out.next b8))
              | (at_builtin; refine wpList_append_own _ rfl _ _ 49 rfl w.heap.size 54 i6 (.agg #[.int .i64 0, .int .i64 0, .int .i64 0]) 3 24 Try.underlying49 Bi.out Bz0.out Bz1.out Bz2.out rfl (by decide) _ _ _ rfl (HS8.out.st.own.alloc _) ⟨w8.heap.size, 0, none⟩ 1 1 [.int .i64 (k : Int), .int .i64 (b : Int), .int .i64 (d : Int)] rfl rfl (new_row rfl) (by intro u hu; simp only [List.mem_cons, List.not_mem_nil, or_false] at hu; rcases hu with rfl | rfl | rfl <;> rfl) (by unfold maxLen; have := HLn2.out; omega) (by have := HLn2.out; omega) (by have := HS8.out.st.held.lt; simp; omega) ?_; intro v10 w10 hown10 hg10 _; have st10 := HS8.out.app (s := ⟨(k : Int), (b : Int), (d : Int)⟩) hg10 hown10; have c10 := st10.st.cell (by omega) Gd.out; have HPu := hid (st10.push hT6 (-dd) (d : Int)); clear hown10 hg10 st10)
              | (go_at_call 26; (with_reducible refine HPu.out.mono ?_); rintro e' w11 ⟨rfl, T11, st11, hp11⟩; have HS11 := hid st11; have HP11 := hid hp11; clear st11 hp11))
            have HDn11 : Hid (SInv N l dn D On S (vs ++ [b]) T11.all (E.drop (i + 1))) := HDj.out.perm HP11.out
            have HC11 : Hid (T11.cnt = T6.cnt + 1) := by show _ = _; rw [perm_cnt HP11.out, List.length_cons, HT.len]
            have HS12 : Hid (KSo w (N : Int) A n c (some ⟨g, 0, none⟩) N ct D (hb + 1) hb (fun v => decide (v ∈ vs ++ [b])) T11 v10 (stepsL N l dn D vs ++ (blk N l dn D b).take (i + 1)) (some ⟨b7, o7, none⟩) mE c7 E w11) := by
              have e : stepsL N l dn D vs ++ (blk N l dn D b).take (i + 1) = L ++ [⟨(k : Int), (b : Int), (d : Int)⟩] := by rw [Hbk.out, ← List.append_assoc, HLL.out]
              rw [e]
              exact HS11.out
            clear hwr
            go_roundw
            case rel => exact ⟨i + 1, T11, by omega, by go_num, HS12, HDn11, by show _ ≤ _; have := HCx.out; have := HC11.out; omega⟩
            case measure => simp [intOf]; omega
          · obtain rfl : i = mE := by omega
            have HDz : Hid (SInv N l dn D On S (vs ++ [b]) T6.all []) := by
              have := HDx.out
              rw [List.drop_of_length_le (by rw [HmE.out]; omega)] at this
              exact this
            have HSz : Hid (KSt w (N : Int) A n c (some ⟨g, 0, none⟩) N ct D (hb + 1) hb (fun v => decide (v ∈ vs ++ [b])) T6 u11 (stepsL N l dn D (vs ++ [b])) wr) := by
              have e : stepsL N l dn D (vs ++ [b]) = stepsL N l dn D vs ++ (blk N l dn D b).take i := by rw [steps_snoc, List.take_of_length_le (by rw [HBl.out]; omega)]
              rw [e]
              exact HSx.out.st
            have HLz : Hid ((stepsL N l dn D (vs ++ [b])).length ≤ cntV N (vs ++ [b]) * 240) := by
              show _ ≤ _
              rw [steps_snoc, List.length_append, HBl.out, Hcv.out]
              have := HLs.out
              omega
            have hl4 := Hcv.out
            have hl5 := HCx.out
            have hl6 := cntV_le N (vs ++ [b])
            have HF : Hid (potK N wr (hb + 1) hb = (N - cntV N (vs ++ [b])) * 1000 + T6.cnt) := HSz.out.pot
            go_wp2_with fail
            go_roundw
            case rel => exact ⟨vs ++ [b], T6, HSz, HDz, by show _ ≤ _; omega, HLz⟩
            case measure => rw [HMS.out, HF.out]; omega
theorem steps_no (nd : Int) (A : Option Addr) (n c : Nat) (l : List Lnk) (Ad : Option Addr) (n' c' : Nat) (dn : List Bool) (s t : Int) (w : World) (hr : GArg w nd A n c l) (hd : DArg w Ad n' c' dn) (hs : -9223372036854775808 ≤ s ∧ s ≤ 9223372036854775807) (ht : -9223372036854775808 ≤ t ∧ t ≤ 9223372036854775807) (h : NoWay nd l dn s t) :
    Calls Try.prog 21 #[.agg #[.int .i64 nd, .slice A n c], .slice Ad n' c', .int .i64 s, .int .i64 t] w fun e w' => e = .returned (.tuple #[.slice none 0 0, .bool false]) ∧ Below w.heap.size w w' := by
  have hSt := Held.start w nd A n c
  have HTo := hid (to_spec nd A n c l Ad n' c' dn t _ (hr.on hSt.1) (hd.on hSt.1) ht.1 ht.2)
  obtain ⟨g0, g1⟩ := hSt.cells
  have hx : 0 ≤ s → s < ((fromS nd l dn t).length : Int) → dAt (fromS nd l dn t) s < 0 := by
    intro h1 h2
    by_cases h3 : (checkS nd l).2 = 0 ∧ 0 ≤ t ∧ t < nd
    · have Q : fromS nd l dn t = distS nd.toNat l dn t.toNat := by unfold fromS; rw [if_pos h3]
      obtain ⟨N, rfl⟩ := Int.eq_ofNat_of_zero_le (show 0 ≤ nd by omega)
      obtain ⟨T, rfl⟩ := Int.eq_ofNat_of_zero_le h3.2.1
      have hok := gok_of h3.1
      have hl := (dist_ok (dn := dn) hok (show T < N by omega)).len
      rw [Q] at h2 ⊢
      rw [Int.toNat_natCast, Int.toNat_natCast] at h2 ⊢
      rw [hl] at h2
      rcases Int.lt_or_le (dAt (distS N l dn T) s) 0 with h4 | h4
      · exact h4
      · exact absurd ⟨h3.1, h3.2.1, h3.2.2, h1, h2, by rw [Int.toNat_natCast, Int.toNat_natCast]; exact h4⟩ h
    · have Q : fromS nd l dn t = [] := by unfold fromS; rw [if_neg h3]
      rw [Q] at h2
      simp at h2
      omega
  obtain ⟨X, hX⟩ : ∃ X, fromS nd l dn t = X := ⟨_, rfl⟩
  rw [hX] at HTo hx
  obtain ⟨m, hm⟩ : ∃ m, X.length = m := ⟨_, rfl⟩
  rw [hm] at hx
  have Hm := hid hm
  clear hr hd h hX hm
  by_cases h1 : s < 0
  · have t1 : decide (s < 0) = true := by simpa using h1
    clear hx h1
    go_enter Try.func21, Try.ntmps21
    go_wp2_with (go_at_call 25; (with_reducible refine HTo.out.mono ?_); rintro e' w1 ⟨v1, rfl, hown1, hb1⟩; rw [Hm.out] at hown1; obtain ⟨A1, c1, rfl⟩ := own_form hown1; have h1 := hSt.next hb1; clear hown1)
    go_ret2
    exact ⟨rfl, h1.1⟩
  · have t1 : decide (s < 0) = false := by simpa using h1
    by_cases h2 : (m : Int) ≤ s
    · have t2 : decide ((m : Int) ≤ s) = true := by simpa using h2
      clear hx h1 h2
      go_enter Try.func21, Try.ntmps21
      go_wp2_with (go_at_call 25; (with_reducible refine HTo.out.mono ?_); rintro e' w1 ⟨v1, rfl, hown1, hb1⟩; rw [Hm.out] at hown1; obtain ⟨A1, c1, rfl⟩ := own_form hown1; have h1 := hSt.next hb1; clear hown1)
      go_ret2
      exact ⟨rfl, h1.1⟩
    · have t2 : decide ((m : Int) ≤ s) = false := by simpa using h2
      obtain ⟨S, rfl⟩ := Int.eq_ofNat_of_zero_le (show 0 ≤ s by omega)
      have hx2 := hx (by omega) (by omega)
      have Gs := hid (dAt_get (d := X) (v := S) (by rw [Hm.out]; omega))
      obtain ⟨x, hxx⟩ : ∃ x, dAt X (S : Int) = x := ⟨_, rfl⟩
      rw [hxx] at hx2 Gs
      have t3 : decide (x < 0) = true := by simpa using hx2
      have hSm : S < m := by omega
      clear hx h1 h2 hx2 hxx
      go_enter Try.func21, Try.ntmps21
      go_wp2_with (go_at_call 25; (with_reducible refine HTo.out.mono ?_); rintro e' w1 ⟨v1, rfl, hown1, hb1⟩; rw [Hm.out] at hown1; obtain ⟨g, ct, rfl, _, hgs, hgc⟩ := own_lo hown1 (by omega); have h1 := hSt.next hb1; have cS := hgc S _ Gs.out; clear hown1 hgc)
      go_ret2
      exact ⟨rfl, h1.1⟩
end Go.Proofs.Ytcjilpgblbnebaa
