/- waymarkref15.Has. -/
import Derived.Test.YtabgbhkpeeibaaaOpH
import Derived.Test.YtabgbhkpeeibaaaOpD
import Derived.Laws.StructEq
namespace Go.Proofs.Ytabgbhkpeeibaaa
open Go.RowKit
set_option maxHeartbeats 6400000
set_option maxRecDepth 100000
theorem eq2_run (w : World) (a b c d : Int) : (Op.equalIn 10000 29 (.agg #[.int .i64 a, .int .i64 b]) (.agg #[.int .i64 c, .int .i64 d])).run Try.prog w = .ok ((a == c) && (b == d)) w := by
  obtain ⟨i, hi, _⟩ := info_parts (show (Try.prog.info? 3).map (fun i => (i.zero, i.size, i.bytes)) = some (some (.int .i64 0), 1, 8) by kernel_rfl)
  rw [show (10000 : Nat) = 9999 + 1 from rfl, run_equalIn_array w 9999 (e := 3) (n := 2) (i := i) _ _ (by kernel_rfl) hi, show Try.prog.cellsOf 3 = 1 by kernel_rfl]
  have hp : ∀ (cs : Array Value) (off : Nat) (v : Value), cs[off]? = some v → (part 3 cs off).run Try.prog w = .ok v w := by
    intro cs off v h
    simp [part, isAgg, run_underlying Try.underlying3, h]
  have he : ∀ x y : Int, (Op.equalIn 9999 3 (.int .i64 x) (.int .i64 y)).run Try.prog w = .ok (x == y) w := fun x y => run_equalIn_int w 9998 3 .i64 .i64 x y Try.underlying3
  rw [show List.range 2 = [0, 1] from rfl]
  simp only [Op.eqItems, Sem.run_bind]
  rw [hp _ _ (.int .i64 a) rfl, Result.andThen_ok, hp _ _ (.int .i64 c) rfl, Result.andThen_ok, he, Result.andThen_ok]
  cases h1 : (a == c) with
  | false => simp
  | true =>
    simp only [Bool.not_true, Bool.false_eq_true, if_false, Sem.run_bind, Bool.true_and]
    rw [hp _ _ (.int .i64 b) rfl, Result.andThen_ok, hp _ _ (.int .i64 d) rfl, Result.andThen_ok, he, Result.andThen_ok]
    cases h2 : (b == d) <;> simp
theorem neq2_run (w : World) (a b c d : Int) : (binOp .neq 29 (.agg #[.int .i64 a, .int .i64 b]) (.agg #[.int .i64 c, .int .i64 d])).run Try.prog w = .ok (.bool (!((a == c) && (b == d)))) w := by
  rw [run_neq_struct, eq2_run]; rfl
theorem eql2_run (w : World) (a b c d : Int) : (binOp .eql 29 (.agg #[.int .i64 a, .int .i64 b]) (.agg #[.int .i64 c, .int .i64 d])).run Try.prog w = .ok (.bool ((a == c) && (b == d))) w := by
  rw [run_eql_struct, eq2_run]; rfl
/-- A row of edges, as a call gets it. -/
structure EArg (w : World) (A : Option Addr) (n c : Nat) (es : List Int) : Prop where
  row : RInt w w.heap.size A n es
  len : n ≤ 60
  rng : ∀ e ∈ es, -9223372036854775808 ≤ e ∧ e ≤ 9223372036854775807
theorem EArg.on {w w' : World} {A : Option Addr} {n c : Nat} {es : List Int} (h : EArg w A n c es) (hb : Below w.heap.size w w') : EArg w' A n c es := ⟨h.row.on hb, h.len, h.rng⟩
/-- What Has answers. -/
def HasSpec (f : Nat) : Prop := ∀ (nd : Int) (A : Option Addr) (n c : Nat) (l : List Lnk) (x : Wnt) (y : WSl) (Ad : Option Addr) (n' c' : Nat) (dn : List Bool) (Ae : Option Addr) (ne ce : Nat) (es : List Int) (w : World), GArg w nd A n c l → WArg w x y → DArg w Ad n' c' dn → y.nv ≤ 100 → y.nn ≤ 100 → y.nl ≤ 100 → y.nc ≤ 100 → EArg w Ae ne ce es →
  Calls Try.prog f #[.agg #[.int .i64 nd, .slice A n c], .agg #[.int .i64 x.frm, .int .i64 x.too, .int .i64 x.bnd, .slice y.av y.nv y.cv, .slice y.an y.nn y.cn, .slice y.al y.nl y.cl, .slice y.ac y.nc y.cc], .slice Ad n' c', .slice Ae ne ce] w fun x' w' => x' = .returned (.bool (hasS nd l x dn es)) ∧ Below w.heap.size w w'
theorem ends_facts {nd : Int} {l : List Lnk} {e : Int} (hck : (checkS nd l).2 = 0) (h : (endsS l e).2.2 = true) : ∃ K a b : Nat, e = (K : Int) ∧ K < 2 * l.length ∧ endsS l e = ((a : Int), (b : Int), true) ∧ (a : Int) < nd ∧ (b : Int) < nd := by
  obtain ⟨hl, h1, h2, hc⟩ := checkS_ok hck
  obtain ⟨N, rfl⟩ := Int.eq_ofNat_of_zero_le (show 0 ≤ nd by omega)
  have hg := gok_of hck
  rcases Int.lt_or_le e 0 with h0 | h0
  · unfold endsS at h; rw [if_pos h0] at h; cases h
  · obtain ⟨K, rfl⟩ := Int.eq_ofNat_of_zero_le h0
    rcases Nat.lt_or_ge K (2 * l.length) with hlt | hge
    · obtain ⟨a, b, xx, hxx, hE, -, -, -, ha, hb, -⟩ := edge_facts hg hlt
      exact ⟨K, a, b, rfl, hlt, hE, by omega, by omega⟩
    · rw [endsS_none (e := K) (by omega)] at h; cases h
theorem stepO_form {nd : Int} {l : List Lnk} {x : Wnt} {gn : List Bool} {v k e : Int} {p : Int × Int} (hr : rightS nd l x = 0) (h : stepO nd l x gn v k e = some p) : ∃ K a b q : Nat, k = (K : Int) ∧ K + 1 < (ptsS x).length ∧ e < 2 * l.length ∧ 0 ≤ e ∧ endsS l e = ((a : Int), (b : Int), true) ∧ v = (a : Int) ∧ (a : Int) < nd ∧ (b : Int) < nd ∧ p = ((b : Int), (q : Int)) ∧ q = K + runN (b : Int) ((ptsS x).drop (K + 1)) ∧ q < (ptsS x).length ∧ e ∈ nextS nd l gn (fromS nd l gn ((ptsS x).getD (K + 1) 0)) v := by
  obtain ⟨hck, -, -⟩ := right_ok hr
  unfold stepO at h
  split at h
  · rename_i hh
    obtain ⟨a1, a2, a3, a4, a5⟩ := hh
    obtain ⟨E, a, b, rfl, hE, hE2, ha, hb⟩ := ends_facts hck a1
    obtain ⟨K, rfl⟩ := Int.eq_ofNat_of_zero_le a3
    have hrn := runN_le (b : Int) ((ptsS x).drop (K + 1))
    rw [List.length_drop] at hrn
    rw [hE2] at a2 h
    rw [show ((K : Int) + 1).toNat = K + 1 by omega] at a5
    cases h
    refine ⟨K, a, b, _, rfl, by omega, by omega, by omega, hE2, a2.symm, ha, hb, ?_, rfl, by omega, a5⟩
    show ((b : Int), if 0 ≤ (K : Int) then (K : Int) + (runN (b : Int) ((ptsS x).drop ((K : Int).toNat + 1)) : Nat) else (K : Int)) = _
    rw [if_pos a3, Int.toNat_natCast]
    push_cast; rfl
  · cases h
theorem stepO_rng {nd : Int} {l : List Lnk} {x : Wnt} {gn : List Bool} {v k e : Int} {p : Int × Int} (hr : rightS nd l x = 0) (h : stepO nd l x gn v k e = some p) : (-9223372036854775808 ≤ p.1 ∧ p.1 ≤ 9223372036854775807) ∧ (-9223372036854775808 ≤ p.2 ∧ p.2 ≤ 9223372036854775807) := by
  obtain ⟨hck, -, hv⟩ := right_ok hr
  have := checkS_ok hck
  obtain ⟨K, a, b, q, -, -, -, -, -, -, -, hb, rfl, -, hq, -⟩ := stepO_form hr h
  rw [ptsS_len] at hq
  exact ⟨⟨by omega, by omega⟩, by omega, by omega⟩
theorem startS_rng {nd : Int} {l : List Lnk} {x : Wnt} (hr : rightS nd l x = 0) : (-9223372036854775808 ≤ (startS x).1 ∧ (startS x).1 ≤ 9223372036854775807) ∧ (-9223372036854775808 ≤ (startS x).2 ∧ (startS x).2 ≤ 9223372036854775807) := by
  obtain ⟨hck, hpv, hv⟩ := right_ok hr
  have := checkS_ok hck
  have hf := hpv x.frm (by unfold ptsS; simp)
  have hrn := runN_le x.frm ((ptsS x).drop 1)
  rw [List.length_drop, ptsS_len] at hrn
  refine ⟨⟨?_, ?_⟩, ?_⟩
  · show _ ≤ x.frm; omega
  · show x.frm ≤ _; omega
  · show _ ≤ (if (0 : Int) ≤ 0 then (0 : Int) + (runN x.frm ((ptsS x).drop 1) : Nat) else 0) ∧ (if (0 : Int) ≤ 0 then (0 : Int) + (runN x.frm ((ptsS x).drop 1) : Nat) else 0) ≤ _
    rw [if_pos (Int.le_refl 0)]
    omega
theorem walk_succ {nd : Int} {l : List Lnk} {x : Wnt} {gn : List Bool} {s : Option (Int × Int)} {es : List Int} {i : Nat} {e : Int} (h : es[i]? = some e) : walkO nd l x gn s (es.take (i + 1)) = (walkO nd l x gn s (es.take i)).bind fun p => stepO nd l x gn p.1 p.2 e := by
  unfold walkO
  rw [List.take_add_one, h, List.foldl_append]; rfl
theorem walk_nil {nd : Int} {l : List Lnk} {x : Wnt} {gn : List Bool} (es : List Int) : walkO nd l x gn none es = none := by
  unfold walkO
  induction es with
  | nil => rfl
  | cons e es ih => exact ih
theorem walk_none {nd : Int} {l : List Lnk} {x : Wnt} {gn : List Bool} {s : Option (Int × Int)} {es : List Int} {i : Nat} (h : walkO nd l x gn s (es.take i) = none) : walkO nd l x gn s es = none := by
  have e : walkO nd l x gn s es = walkO nd l x gn (walkO nd l x gn s (es.take i)) (es.drop i) := by
    conv => lhs; rw [← List.take_append_drop i es]
    unfold walkO
    rw [List.foldl_append]
  rw [e, h, walk_nil]
theorem has_off {nd : Int} {l : List Lnk} {x : Wnt} {dn : List Bool} {es : List Int} (h : (costS nd l x dn).2 ≠ 0) : hasS nd l x dn es = false := by
  unfold hasS
  rw [beq_false_of_ne h]; rfl
/-- Two boxes of Has, and its state's. -/
def HeldW (w : World) (nd : Int) (A : Option Addr) (n c : Nat) (x : Wnt) (y : WSl) (T : Nat) (v k : Int) (w' : World) : Prop :=
  Held2 w nd A n c x y w' ∧ w'.heap[T]? = some (.cells #[.int .i64 v, .int .i64 k] 29 (0, 0)) ∧ w.heap.size + 1 < T
theorem HeldW.next {w w' w'' : World} {nd : Int} {A : Option Addr} {n c T : Nat} {x : Wnt} {y : WSl} {v k : Int} (h : HeldW w nd A n c x y T v k w') (hb : Below w'.heap.size w' w'') : HeldW w nd A n c x y T v k w'' :=
  ⟨h.1.next hb, box_below h.2.1 hb (blk_lt h.2.1), h.2.2⟩
theorem HeldW.put {w w' : World} {nd : Int} {A : Option Addr} {n c T : Nat} {x : Wnt} {y : WSl} {v k a b : Int} (h : HeldW w nd A n c x y T v k w') : HeldW w nd A n c x y T a b ((w'.setCell ⟨T, 0, none⟩ (.int .i64 a)).setCell ⟨T, 1, none⟩ (.int .i64 b)) :=
  ⟨(h.1.set h.2.2).set h.2.2, box_set1 (box_set0 h.2.1), h.2.2⟩
theorem refHas_spec (hN : NewOptSpec 32) : HasSpec 17 := by
  intro nd A n c l x y Ad n' c' dn Ae ne ce es w hg hw hd h1 h2 h3 h4 hes
  have hS := Held2.start w nd A n c x y
  have HNo := hid (fun W (hh : Held2 w nd A n c x y W) => (hN nd A n c l x y Ad n' c' dn W (hg.on hh.1) (hw.on hh.1) (hd.on hh.1) h1 h2 h3 h4).mono fun _ _ h => (⟨hh.next h.1, h.2⟩ : Held2 w nd A n c x y _ ∧ _))
  have HSa := hid (fun W (hh : Held2 w nd A n c x y W) => start_any x y W (hw.on hh.1) (by omega))
  have HGo := hid (fun W (hh : Held2 w nd A n c x y W) => goal_any x y W (hw.on hh.1) (by omega))
  have hne := hes.len
  obtain ⟨s1, s2, hs⟩ : ∃ s1 s2, startS x = (s1, s2) := ⟨_, _, rfl⟩
  obtain ⟨g1, g2, hgo⟩ : ∃ g1 g2, goalS x = (g1, g2) := ⟨_, _, rfl⟩
  have hsr := fun h => startS_rng (x := x) (nd := nd) (l := l) h
  rw [hs] at HSa hsr
  rw [hgo] at HGo
  by_cases hc : (costS nd l x dn).2 = 0
  · have hr0 : rightS nd l x = 0 := by
      rcases Classical.em (rightS nd l x = 0) with h5 | h5
      · exact h5
      · unfold costS at hc; rw [if_pos h5] at hc; exact absurd hc h5
    have hsr2 := hsr hr0
    have HNo2 : Hid (∀ W, Held2 w nd A n c x y W → Calls Try.prog 32 #[.agg #[.int .i64 nd, .slice A n c], .agg #[.int .i64 x.frm, .int .i64 x.too, .int .i64 x.bnd, .slice y.av y.nv y.cv, .slice y.an y.nn y.cn, .slice y.al y.nl y.cl, .slice y.ac y.nc y.cc], .slice Ad n' c'] W fun e w' => ∃ B, e = .returned (.tuple #[.pointer (some ⟨B, 0, none⟩), .bool true]) ∧ OptAt nd A n c l x (prunedS nd l x dn) B w' ∧ Held2 w nd A n c x y w') := fun W hh => (HNo.out W hh).mono fun e w' ⟨h5, h6⟩ => by
      rcases h6 with ⟨h7, _⟩ | ⟨_, B, h7, h8⟩
      · exact absurd hc h7
      · exact ⟨B, h7, h8, h5⟩
    have hV : Hid (hasS nd l x dn es = (walkO nd l x (prunedS nd l x dn) (some (s1, s2)) es == some (g1, g2))) := by show _ = _; unfold hasS; rw [hc, hs, hgo]; rfl
    obtain ⟨gn, hgn⟩ : ∃ gn, prunedS nd l x dn = gn := ⟨_, rfl⟩
    rw [hgn] at HNo2 hV
    have HSt := hid (fun B v k e (hv : -9223372036854775808 ≤ v ∧ v ≤ 9223372036854775807) (hk : -9223372036854775808 ≤ k ∧ k ≤ 9223372036854775807) (he : -9223372036854775808 ≤ e ∧ e ≤ 9223372036854775807) W (hh : Held2 w nd A n c x y W) (ho : OptAt nd A n c l x gn B W) => optStep_spec nd A n c l x gn B v k e W ho (hg.on hh.1) hr0 hv hk he)
    have HEs := hid (fun W (hh : Held2 w nd A n c x y W) => (hes.on hh.1).row)
    have HEr := hid (fun i e (h : es[i]? = some e) => hes.rng e (List.mem_of_getElem? h))
    have HSr := hid (fun v k e p (h : stepO nd l x gn v k e = some p) => stepO_rng hr0 h)
    have hel := hid hes.row.1
    clear HNo hN hg hw hd hc hes hgn hr0 hsr h1 h2 h3 h4 hs hgo
    go_enter Try.func17, Try.ntmps17
    go_wp2_with (first
      | (go_at_call 32; (with_reducible refine (HNo2.out _ hS).mono ?_); rintro e' w3 ⟨B, rfl, ho3, hh3⟩; obtain ⟨p0, p1⟩ := hh3.g; obtain ⟨p2, p3, p4, p5, p6, p7, p8⟩ := hh3.v)
      | (go_at_call 13; (with_reducible refine (HSa.out _ hh3).mono ?_); rintro e' w4 ⟨rfl, hb34⟩; have hh4 := hh3.next hb34))
    have HO := hid (fun W (hb : Below w4.heap.size w4 W) => (ho3.on hb34).on hb)
    have HT4 : Hid (HeldW w nd A n c x y w4.heap.size s1 s2 (w4.alloc (.cells #[.int .i64 s1, .int .i64 s2] 29))) :=
      ⟨hh4.next ((Below.refl _ _).alloc (Nat.le_refl _) _), heap_alloc_new w4 _, hh4.lt⟩
    have HT4b : Hid (Below w4.heap.size w4 (w4.alloc (.cells #[.int .i64 s1, .int .i64 s2] 29))) := (Below.refl _ _).alloc (Nat.le_refl _) _
    obtain ⟨T, hT⟩ : ∃ T, w4.heap.size = T := ⟨_, rfl⟩
    rw [hT] at HT4
    simp only [hT]
    have hTw : w4.heap.size ≤ T := Nat.le_of_eq hT
    clear hT p0 p1 p2 p3 p4 p5 p6 p7 p8 hS
    go_loopw [10, 12] (fun okv iv wr => ∃ (i : Nat) (b : Bool) (v k : Int), i ≤ ne ∧ okv = .bool b ∧ iv = .int .i64 i ∧ Hid (HeldW w nd A n c x y T v k wr) ∧ Hid (Below w4.heap.size w4 wr) ∧ (b = false → Hid (walkO nd l x gn (some (s1, s2)) (es.take i) = none)) ∧ (b = true → Hid (walkO nd l x gn (some (s1, s2)) (es.take i) = some (v, k)) ∧ (-9223372036854775808 ≤ v ∧ v ≤ 9223372036854775807) ∧ (-9223372036854775808 ≤ k ∧ k ≤ 9223372036854775807))) (fun _ iv _ => ne - (intOf iv).toNat)
    case atStart => exact ⟨0, true, s1, s2, Nat.zero_le _, rfl, rfl, HT4, HT4b, fun h => (by cases h), fun _ => ⟨rfl, hsr2.1, hsr2.2⟩⟩
    case round =>
      obtain ⟨i, b, v, k, hi, rfl, rfl, HW, HB, hb0, hb1⟩ := hrel
      cases b with
      | false =>
        have hVf : Hid (hasS nd l x dn es = false) := by show _ = _; rw [hV.out, walk_none (hb0 rfl).out]; rfl
        clear hb0 hb1
        by_cases h0 : i < ne
        · have t1 : decide ((i : Int) < (ne : Int)) = true := decide_eq_true (by omega)
          have t2 : decide (i < ne) = true := decide_eq_true h0
          go_wp2_with fail
          go_big_quiet (fail)
          go_wp2_with fail
          go_ret
          exact ⟨by rw [hVf.out]; rfl, below_drewN HW.out.1.1⟩
        · have t1 : decide ((i : Int) < (ne : Int)) = false := decide_eq_false (by omega)
          have t2 : decide (i < ne) = false := decide_eq_false h0
          go_wp2_with fail
          go_big_quiet (fail)
          go_wp2_with fail
          go_ret
          exact ⟨by rw [hVf.out]; rfl, below_drewN HW.out.1.1⟩
      | true =>
        obtain ⟨HK, hvr, hkr⟩ := hb1 rfl
        clear hb0 hb1
        obtain ⟨z0, z1, z2⟩ := box_cells HW.out.2.1
        by_cases h0 : i < ne
        · have hii : (i : Int) < (ne : Int) := by omega
          have t1 : decide ((i : Int) < (ne : Int)) = true := decide_eq_true hii
          have t2 : decide (i < ne) = true := decide_eq_true h0
          have ewi : IntKind.i64.wrap ((i : Int) + 1) = (i : Int) + 1 := by rw [IntKind.wrap_i64]; omega
          have hrw := HEs.out _ HW.out.1
          obtain ⟨g5, hg5⟩ : ∃ g5, es[i]? = some g5 := ⟨_, List.getElem?_eq_getElem (by have := hel.out; omega)⟩
          obtain ⟨b5, o5, rfl, hl5, hcell5⟩ := hrw.2 (by omega)
          have hc := hcell5 i g5 hg5
          clear hcell5 hrw
          have her := HEr.out i g5 hg5
          have HKs : Hid (walkO nd l x gn (some (s1, s2)) (es.take (i + 1)) = stepO nd l x gn v k g5) := by show _ = _; rw [walk_succ hg5, HK.out]; rfl
          clear hg5
          have HWd : Hid (HeldW w nd A n c x y T v k wr.drew) := HW.out.next ((Below.refl _ _).drew)
          have HBd : Hid (Below w4.heap.size w4 wr.drew) := HB.out.drew
          obtain ⟨o, ho⟩ : ∃ o, stepO nd l x gn v k g5 = o := ⟨_, rfl⟩
          have HSk := hid (HSt.out B v k g5 hvr hkr her _ HWd.out.1 (HO.out _ HBd.out))
          have hor := fun p => HSr.out v k g5 p
          rw [ho] at HSk HKs hor
          clear her hvr hkr HK ho
          cases o with
          | none =>
            change Hid (Calls Try.prog _ _ _ fun x' w' => x' = .returned (.tuple #[.agg #[.int .i64 0, .int .i64 0], .bool false]) ∧ Below wr.drew.heap.size wr.drew w') at HSk
            go_wp2_with fail
            have c33 := HWd.out.2.1
            obtain ⟨u0, u1, -⟩ := box_cells c33
            have u5 : wr.drew.cell? ⟨b5, o5 + i, none⟩ = some (.int .i64 g5) := hc
            clear c33
            go_region_law (go_simp; go_at_call 33; (with_reducible refine HSk.out.mono ?_); rintro e' w7 ⟨rfl, hb7⟩; have HX7 := hid (HWd.out.next hb7); obtain ⟨y0, y1, y2⟩ := box_cells HX7.out.2.1; have y20 := y2 0; have y21 := y2 1; have HBx := hid (HBd.out.trans (hb7.mono HBd.out.size)); clear hb7 y2)
            all_goals
              have HW7 := hid (HX7.out.put (a := 0) (b := 0))
              have HB7 := hid ((HBx.out.setCell (p := ⟨T, 0, none⟩) hTw (.int .i64 0)).setCell (p := ⟨T, 1, none⟩) hTw (.int .i64 0))
              go_wp2_with fail
              clear ewi
              go_roundw
              case rel => exact ⟨i + 1, false, 0, 0, by omega, rfl, by go_num, HW7, HB7, fun _ => HKs, fun h => (by cases h)⟩
              case measure => simp [intOf]; omega
          | some p =>
            obtain ⟨p1, p2⟩ := p
            have hpr := hor (p1, p2) rfl
            change Hid (Calls Try.prog _ _ _ fun x' w' => x' = .returned (.tuple #[.agg #[.int .i64 p1, .int .i64 p2], .bool true]) ∧ Below wr.drew.heap.size wr.drew w') at HSk
            clear hor
            go_wp2_with fail
            have c33 := HWd.out.2.1
            obtain ⟨u0, u1, -⟩ := box_cells c33
            have u5 : wr.drew.cell? ⟨b5, o5 + i, none⟩ = some (.int .i64 g5) := hc
            clear c33
            go_region_law (go_simp; go_at_call 33; (with_reducible refine HSk.out.mono ?_); rintro e' w7 ⟨rfl, hb7⟩; have HX7 := hid (HWd.out.next hb7); obtain ⟨y0, y1, y2⟩ := box_cells HX7.out.2.1; have y20 := y2 0; have y21 := y2 1; have HBx := hid (HBd.out.trans (hb7.mono HBd.out.size)); clear hb7 y2)
            all_goals
              have HW7 := hid (HX7.out.put (a := p1) (b := p2))
              have HB7 := hid ((HBx.out.setCell (p := ⟨T, 0, none⟩) hTw (.int .i64 p1)).setCell (p := ⟨T, 1, none⟩) hTw (.int .i64 p2))
              go_wp2_with fail
              clear ewi
              go_roundw
              case rel => exact ⟨i + 1, true, p1, p2, by omega, rfl, by go_num, HW7, HB7, fun h => (by cases h), fun _ => ⟨HKs, hpr.1, hpr.2⟩⟩
              case measure => simp [intOf]; omega
        · obtain rfl : i = ne := by omega
          have t1 : decide ((i : Int) < (i : Int)) = false := by simp
          have t2 : decide (i < i) = false := by simp
          have hKe : Hid (hasS nd l x dn es = ((v, k) == (g1, g2))) := by
            show _ = _
            have : es.take i = es := List.take_of_length_le (Nat.le_of_eq hel.out)
            rw [hV.out, ← this, HK.out]; rfl
          have HWd : Hid (HeldW w nd A n c x y T v k wr.drew) := HW.out.next ((Below.refl _ _).drew)
          have HGk := hid (HGo.out _ HWd.out.1)
          have hWd := HWd.out.1
          obtain ⟨r0, r1⟩ := hWd.g
          obtain ⟨r2, r3, r4, r5, r6, r7, r8⟩ := hWd.v
          obtain ⟨y0, y1, y2⟩ := box_cells HWd.out.2.1
          clear hWd
          obtain ⟨q, hq⟩ : ∃ q, ((v == g1) && (k == g2)) = q := ⟨_, rfl⟩
          have heql := fun W => hq ▸ eql2_run W v k g1 g2
          have hKq : Hid (hasS nd l x dn es = q) := by show _ = _; rw [hKe.out, ← hq]; rfl
          clear hq hKe
          go_wp2_with fail
          go_region_law (go_simp; go_at_call 15; (with_reducible refine HGk.out.mono ?_); rintro e' w7 ⟨rfl, hb7⟩; have HX7 := hid (HWd.out.next hb7); obtain ⟨x0, x1, x2⟩ := box_cells HX7.out.2.1; clear hb7 x2)
          all_goals
            go_wp2_with fail
            go_ret
            exact ⟨by rw [hKq.out]; rfl, HX7.out.1.1⟩
  · have hV := hid (has_off (es := es) hc)
    have HNo2 : Hid (∀ W, Held2 w nd A n c x y W → Calls Try.prog 32 #[.agg #[.int .i64 nd, .slice A n c], .agg #[.int .i64 x.frm, .int .i64 x.too, .int .i64 x.bnd, .slice y.av y.nv y.cv, .slice y.an y.nn y.cn, .slice y.al y.nl y.cl, .slice y.ac y.nc y.cc], .slice Ad n' c'] W fun e w' => e = .returned (.tuple #[.pointer none, .bool false]) ∧ Held2 w nd A n c x y w') := fun W hh => (HNo.out W hh).mono fun e w' ⟨h5, h6⟩ => by
      rcases h6 with ⟨_, h7⟩ | ⟨h7, _⟩
      · exact ⟨h7, h5⟩
      · exact absurd h7 hc
    clear HNo hN hg hw hd hc h1 h2 h3 h4 hs hgo hsr
    go_enter Try.func17, Try.ntmps17
    go_wp2_with (first
      | (go_at_call 32; (with_reducible refine (HNo2.out _ hS).mono ?_); rintro e' w3 ⟨rfl, hh3⟩; obtain ⟨p0, p1⟩ := hh3.g; obtain ⟨p2, p3, p4, p5, p6, p7, p8⟩ := hh3.v)
      | (go_at_call 13; (with_reducible refine (HSa.out _ hh3).mono ?_); rintro e' w4 ⟨rfl, hb34⟩; have hh4 := hh3.next hb34))
    have HT4 : Hid (HeldW w nd A n c x y w4.heap.size s1 s2 (w4.alloc (.cells #[.int .i64 s1, .int .i64 s2] 29))) :=
      ⟨hh4.next ((Below.refl _ _).alloc (Nat.le_refl _) _), heap_alloc_new w4 _, hh4.lt⟩
    have HT4b : Hid (Below w4.heap.size w4 (w4.alloc (.cells #[.int .i64 s1, .int .i64 s2] 29))) := (Below.refl _ _).alloc (Nat.le_refl _) _
    obtain ⟨T, hT⟩ : ∃ T, w4.heap.size = T := ⟨_, rfl⟩
    rw [hT] at HT4
    simp only [hT]
    clear hT p0 p1 p2 p3 p4 p5 p6 p7 p8 hS
    go_loopw [10, 12] (fun okv iv wr => okv = .bool false ∧ iv = .int .i64 0 ∧ Hid (HeldW w nd A n c x y T s1 s2 wr)) (fun _ _ _ => 0)
    case atStart => exact ⟨rfl, rfl, HT4⟩
    case round =>
      obtain ⟨rfl, rfl, HW⟩ := hrel
      by_cases h0 : 0 < ne
      · have t1 : decide ((0 : Int) < (ne : Int)) = true := decide_eq_true (by omega)
        have t2 : decide (0 < ne) = true := decide_eq_true h0
        go_wp2_with fail
        go_big_quiet (fail)
        go_wp2_with fail
        go_ret
        exact ⟨by rw [hV.out]; rfl, below_drewN HW.out.1.1⟩
      · have t1 : decide ((0 : Int) < (ne : Int)) = false := decide_eq_false (by omega)
        have t2 : decide (0 < ne) = false := decide_eq_false h0
        go_wp2_with fail
        go_big_quiet (fail)
        go_wp2_with fail
        go_ret
        exact ⟨by rw [hV.out]; rfl, below_drewN HW.out.1.1⟩
end Go.Proofs.Ytabgbhkpeeibaaa
