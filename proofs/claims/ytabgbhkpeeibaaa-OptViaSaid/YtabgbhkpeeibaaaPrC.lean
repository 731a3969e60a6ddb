/- waymarkref1.Pruned. -/
import Derived.Test.YtabgbhkpeeibaaaPrB
import Derived.OwnWalk
namespace Go.Proofs.Ytabgbhkpeeibaaa
open Go.RowKit
set_option maxHeartbeats 6400000
set_option maxRecDepth 100000
theorem BRow.toRBl {w : World} {G N : Nat} {H : Nat → Bool} (h : BRow w G N H) : RBl w w.heap.size (some ⟨G, 0, none⟩) N ((List.range N).map H) := by
  refine ⟨by simp, fun _ => ⟨G, 0, rfl, h.lt, fun i x hx => ?_⟩⟩
  simp only [List.getElem?_map, Option.map_eq_some_iff] at hx
  obtain ⟨j, hj, rfl⟩ := hx
  have hi : i < N := by
    have := (List.getElem?_eq_some_iff.1 hj).1
    simpa using this
  rw [List.getElem?_range hi] at hj
  injection hj with hj
  subst hj
  have := h.cell hi
  simpa using this
/-- Is a link taken away? -/
def cutB (l : List Lnk) (x : Wnt) (dn : List Bool) (i : Nat) : Bool :=
  isDn dn i || decide ((i : Int) ∈ x.lks) || decide ((l.getD i default).c ∈ x.cls) || decide ((l.getD i default).a ∈ x.nds) || decide ((l.getD i default).b ∈ x.nds)
/-- What Down answers. -/
def prunedS (nd : Int) (l : List Lnk) (x : Wnt) (dn : List Bool) : List Bool := if rightS nd l x = 0 then (List.range l.length).map (cutB l x dn) else []
/-- What a function answers that makes a row of bools. -/
def BlAns (L : List Bool) (w : World) (e : Ending) (w' : World) : Prop :=
  ∃ A c, e = .returned (.slice A L.length c) ∧ RBl w' w'.heap.size A L.length L ∧ L.length ≤ c ∧ (A = none → L.length = 0 ∧ c = 0) ∧ Below w.heap.size w w'
theorem blAns_nil (w w' : World) (hb : Below w.heap.size w w') : BlAns [] w (.returned (.slice none 0 0)) w' := ⟨none, 0, rfl, ⟨rfl, fun h => by simp at h⟩, Nat.le_refl _, fun _ => ⟨rfl, rfl⟩, hb⟩
theorem pruned_not (nd : Int) (A : Option Addr) (n c : Nat) (l : List Lnk) (x : Wnt) (y : WSl) (Ad : Option Addr) (n' c' : Nat) (dn : List Bool) (w : World) (hr : RLnk w w.heap.size A n l) (hw : WArg w x y) (hv1 : y.nv ≤ 1000) (hv2 : y.nn ≤ 1000) (hv3 : y.nl ≤ 1000) (hv4 : y.nc ≤ 1000) (h : rightS nd l x ≠ 0) :
    Calls Try.prog 21 #[.agg #[.int .i64 nd, .slice A n c], .agg #[.int .i64 x.frm, .int .i64 x.too, .int .i64 x.bnd, .slice y.av y.nv y.cv, .slice y.an y.nn y.cn, .slice y.al y.nl y.cl, .slice y.ac y.nc y.cc], .slice Ad n' c'] w (BlAns (prunedS nd l x dn) w) := by
  have Q : prunedS nd l x dn = [] := by unfold prunedS; rw [if_neg h]
  rw [Q]
  have hS := Held2.start w nd A n c x y
  have HR := hid (fun (w' : World) (h : Held2 w nd A n c x y w') => h.calls (right_any nd A n c l x y w' ((hr.below h.1).more h.1.size) (hw.on h.1) hv1 hv2 hv3 hv4))
  obtain ⟨r, hrr⟩ : ∃ r, rightS nd l x = r := ⟨_, rfl⟩
  rw [hrr] at HR
  have t1 : (r != 0) = true := by rw [← hrr]; simpa using h
  obtain ⟨g0, g1⟩ := hS.g
  obtain ⟨g2, g3, g4, g5, g6, g7, g8⟩ := hS.v
  clear hr hw h hrr Q
  go_enter Try.func21, Try.ntmps21
  go_wp2_with (go_at_call 23; (with_reducible refine (HR.out _ hS).mono ?_); rintro e' w2 ⟨rfl, h2⟩)
  go_ret
  exact blAns_nil _ _ h2.1
theorem pruned_in (nd : Int) (A : Option Addr) (n c : Nat) (l : List Lnk) (x : Wnt) (y : WSl) (Ad : Option Addr) (n' c' : Nat) (dn : List Bool) (w : World) (hr : RLnk w w.heap.size A n l) (hw : WArg w x y) (hd : RBl w w.heap.size Ad n' dn) (hn : n ≤ 1000) (hv1 : y.nv ≤ 1000) (hv2 : y.nn ≤ 1000) (hv3 : y.nl ≤ 1000) (hv4 : y.nc ≤ 1000) (h : rightS nd l x = 0) :
    Calls Try.prog 21 #[.agg #[.int .i64 nd, .slice A n c], .agg #[.int .i64 x.frm, .int .i64 x.too, .int .i64 x.bnd, .slice y.av y.nv y.cv, .slice y.an y.nn y.cn, .slice y.al y.nl y.cl, .slice y.ac y.nc y.cc], .slice Ad n' c'] w (BlAns (prunedS nd l x dn) w) := by
  have Q : prunedS nd l x dn = (List.range l.length).map (cutB l x dn) := by unfold prunedS; rw [if_pos h]
  rw [Q]
  have hl := hr.1
  rw [hl]
  have hS := Held2.start w nd A n c x y
  have HR := hid (fun (w' : World) (h : Held2 w nd A n c x y w') => h.calls (right_any nd A n c l x y w' ((hr.below h.1).more h.1.size) (hw.on h.1) hv1 hv2 hv3 hv4))
  rw [h] at HR
  have t0 : ((0 : Int) != 0) = false := by decide
  have H1 := hid (fun (i : Nat) (hi : i < 1000) (w' : World) (h : Held2 w nd A n c x y w') => isDown_any Ad n' c' dn i w' ((hd.below h.1).more h.1.size) (by omega))
  have H2 := hid (fun (v : Int) (w' : World) (h : Held2 w nd A n c x y w') => has_any y.al y.nl y.cl x.lks v w' (hw.on h.1).lks.row (by omega))
  have H3 := hid (fun (v : Int) (w' : World) (h : Held2 w nd A n c x y w') => has_any y.ac y.nc y.cc x.cls v w' (hw.on h.1).cls.row (by omega))
  have H4 := hid (fun (v : Int) (w' : World) (h : Held2 w nd A n c x y w') => has_any y.an y.nn y.cn x.nds v w' (hw.on h.1).nds.row (by omega))
  obtain ⟨i5, hi, hz0, hz1, hz2⟩ := info_parts (show (Try.prog.info? 4).map (fun i => (i.zero, i.size, i.bytes)) = some (some (.bool false), 1, 1) by kernel_rfl)
  have Ai := hid hi; have Az0 := hid hz0; have Az1 := hid hz1; have Az2 := hid hz2
  clear hi hz0 hz1 hz2
  have HRL := hid hr
  obtain ⟨g0, g1⟩ := hS.g
  obtain ⟨g2, g3, g4, g5, g6, g7, g8⟩ := hS.v
  clear hr hw h hd Q
  go_enter Try.func21, Try.ntmps21
  go_wp2_with (first
    | (go_at_call 23; (with_reducible refine (HR.out _ hS).mono ?_); rintro e' w2 ⟨rfl, h2⟩; obtain ⟨q0, q1⟩ := h2.g)
    | (at_make; refine wpList_make_full _ rfl (.tmp 16) (.tmp 16) 28 rfl w2.heap.size 4 i5 (.bool false) 1 Try.underlying28 Ai.out Az0.out Az1.out _ _ _ _ n rfl rfl rfl rfl (by rw [Az2.out]; omega) (by unfold maxLen; omega) (Nat.le_refl _) ?_; intro w3 hown3 hg3; have HM3 := hid (BRow.made hown3); have b3 := grown_below hg3; have h3 := h2.next b3; clear hown3 hg3))
  have hwG := h2.lt
  clear g0 g1 g2 g3 g4 g5 g6 g7 g8 q0 q1
  go_loopw [8] (fun i wr => ∃ (k : Nat), k ≤ n ∧ i = .int .i64 k ∧ Hid (BRow wr w2.heap.size n (fun j => decide (j < k) && cutB l x dn j)) ∧ Hid (Held2 w nd A n c x y wr)) (fun i _ => n - (intOf i).toNat)
  case atStart => exact ⟨0, Nat.zero_le _, rfl, HM3.out.congr (fun e _ => by simp), h3⟩
  case round =>
    obtain ⟨k, hk, rfl, HBr, HHw⟩ := hrel
    obtain ⟨p0, p1⟩ := HHw.out.g
    have hlo := HHw.out.lt
    have hGl := HBr.out.lt
    by_cases hkn : k < n
    · obtain ⟨z, hz⟩ : ∃ z, l[k]? = some z := ⟨l[k]'(by omega), List.getElem?_eq_getElem _⟩
      obtain ⟨bL, oL, rfl, hbL, hcL⟩ := HRL.out.2 (by omega)
      obtain ⟨l0, l1, l2, l3⟩ := hcL k z hz
      have c0 := (HHw.out.1.cell (p := ⟨bL, oL + k * 4, none⟩) hbL).trans l0
      have c1 := (HHw.out.1.cell (p := ⟨bL, oL + k * 4 + 1, none⟩) hbL).trans l1
      have c2 := (HHw.out.1.cell (p := ⟨bL, oL + k * 4 + 2, none⟩) hbL).trans l2
      have c3 := (HHw.out.1.cell (p := ⟨bL, oL + k * 4 + 3, none⟩) hbL).trans l3
      have hA := HHw.out.next (Below.alloc (Below.refl _ _) (Nat.le_refl _) (.cells #[.int .i64 z.a, .int .i64 z.b, .int .i64 z.m, .int .i64 z.c] 46))
      have HBa := hid (HBr.out.on (Below.alloc (Below.refl _ _) (Nat.le_refl _) (.cells #[.int .i64 z.a, .int .i64 z.b, .int .i64 z.m, .int .i64 z.c] 46)))
      obtain ⟨p2, p3, p4, p5, p6, p7, p8⟩ := hA.v
      have cm := HBa.out.cell hkn
      have fm := HBa.out.frozen k
      have HQ : Hid (cutB l x dn k = (isDn dn k || decide ((k : Int) ∈ x.lks) || decide (z.c ∈ x.cls) || decide (z.a ∈ x.nds) || decide (z.b ∈ x.nds))) := by
        show _ = _
        unfold cutB
        rw [List.getD_eq_getElem?_getD, hz]; rfl
      have HS : Hid (∀ b, cutB l x dn k = b → BRow ((wr.setCell ⟨w2.heap.size, k, none⟩ (.bool b)).alloc (.cells #[.int .i64 z.a, .int .i64 z.b, .int .i64 z.m, .int .i64 z.c] 46)) w2.heap.size n (fun j => decide (j < k + 1) && cutB l x dn j)) := fun b hb => BRow.on ((HBr.out.set b).congr (fun j _ => by
        show (decide (j < k + 1) && cutB l x dn j) = if j = k then b else (decide (j < k) && cutB l x dn j)
        by_cases hj : j = k
        · subst hj; simp [hb]
        · rw [if_neg hj, show decide (j < k + 1) = decide (j < k) from by rw [decide_eq_decide]; omega])) (Below.alloc (Below.refl _ _) (Nat.le_refl _) _)
      have HH2 : Hid (∀ b, Held2 w nd (some ⟨bL, oL, none⟩) n c x y ((wr.setCell ⟨w2.heap.size, k, none⟩ (.bool b)).alloc (.cells #[.int .i64 z.a, .int .i64 z.b, .int .i64 z.m, .int .i64 z.c] 46))) := fun b => (HHw.out.set hwG).next (Below.alloc (Below.refl _ _) (Nat.le_refl _) _)
      have K1 := hid (H1.out k (by omega) _ hA)
      have K2 := hid (H2.out (k : Int) _ hA)
      have K3 := hid (H3.out z.c _ hA)
      have K4 := hid (H4.out z.a _ hA)
      have K5 := hid (H4.out z.b _ hA)
      obtain ⟨e1, he1⟩ : ∃ e1, isDn dn k = e1 := ⟨_, rfl⟩
      obtain ⟨e2, he2⟩ : ∃ e2, decide ((k : Int) ∈ x.lks) = e2 := ⟨_, rfl⟩
      obtain ⟨e3, he3⟩ : ∃ e3, decide (z.c ∈ x.cls) = e3 := ⟨_, rfl⟩
      obtain ⟨e4, he4⟩ : ∃ e4, decide (z.a ∈ x.nds) = e4 := ⟨_, rfl⟩
      obtain ⟨e5, he5⟩ : ∃ e5, decide (z.b ∈ x.nds) = e5 := ⟨_, rfl⟩
      rw [he1] at K1 HQ
      rw [he2] at K2 HQ
      rw [he3] at K3 HQ
      rw [he4] at K4 HQ
      rw [he5] at K5 HQ
      clear l0 l1 l2 l3 hcL hz he1 he2 he3 he4 he5
      cases e1 with
      | true =>
        have HV := hid (HS.out true (by rw [HQ.out]; first | rfl | simp))
        go_wp2_with (first
          | (go_at_call 34; (with_reducible refine K1.out.mono ?_); rintro _ _ ⟨rfl, rfl⟩)
          | (go_at_call 35; (with_reducible (first | refine K2.out.mono ?_ | refine K3.out.mono ?_ | refine K4.out.mono ?_ | refine K5.out.mono ?_)); rintro _ _ ⟨rfl, rfl⟩))
        go_roundw
        case rel => exact ⟨k + 1, by omega, by go_num, HV.out, HH2.out _⟩
        case measure => simp [intOf]; omega
      | false =>
        cases e2 with
        | true =>
          have HV := hid (HS.out true (by rw [HQ.out]; first | rfl | simp))
          go_wp2_with (first
            | (go_at_call 34; (with_reducible refine K1.out.mono ?_); rintro _ _ ⟨rfl, rfl⟩)
            | (go_at_call 35; (with_reducible (first | refine K2.out.mono ?_ | refine K3.out.mono ?_ | refine K4.out.mono ?_ | refine K5.out.mono ?_)); rintro _ _ ⟨rfl, rfl⟩))
          go_roundw
          case rel => exact ⟨k + 1, by omega, by go_num, HV.out, HH2.out _⟩
          case measure => simp [intOf]; omega
        | false =>
          cases e3 with
          | true =>
            have HV := hid (HS.out true (by rw [HQ.out]; first | rfl | simp))
            go_wp2_with (first
              | (go_at_call 34; (with_reducible refine K1.out.mono ?_); rintro _ _ ⟨rfl, rfl⟩)
              | (go_at_call 35; (with_reducible (first | refine K2.out.mono ?_ | refine K3.out.mono ?_ | refine K4.out.mono ?_ | refine K5.out.mono ?_)); rintro _ _ ⟨rfl, rfl⟩))
            go_roundw
            case rel => exact ⟨k + 1, by omega, by go_num, HV.out, HH2.out _⟩
            case measure => simp [intOf]; omega
          | false =>
            cases e4 with
            | true =>
              have HV := hid (HS.out true (by rw [HQ.out]; first | rfl | simp))
              go_wp2_with (first
                | (go_at_call 34; (with_reducible refine K1.out.mono ?_); rintro _ _ ⟨rfl, rfl⟩)
                | (go_at_call 35; (with_reducible (first | refine K2.out.mono ?_ | refine K3.out.mono ?_ | refine K4.out.mono ?_ | refine K5.out.mono ?_)); rintro _ _ ⟨rfl, rfl⟩))
              go_roundw
              case rel => exact ⟨k + 1, by omega, by go_num, HV.out, HH2.out _⟩
              case measure => simp [intOf]; omega
            | false =>
              have HV := hid (HS.out e5 (by rw [HQ.out]; first | rfl | simp))
              go_wp2_with (first
                | (go_at_call 34; (with_reducible refine K1.out.mono ?_); rintro _ _ ⟨rfl, rfl⟩)
                | (go_at_call 35; (with_reducible (first | refine K2.out.mono ?_ | refine K3.out.mono ?_ | refine K4.out.mono ?_ | refine K5.out.mono ?_)); rintro _ _ ⟨rfl, rfl⟩))
              go_roundw
              case rel => exact ⟨k + 1, by omega, by go_num, HV.out, HH2.out _⟩
              case measure => simp [intOf]; omega
    · obtain rfl : n = k := by omega
      go_wp2_with fail
      go_ret
      have hR := (HBr.out.congr (H' := cutB l x dn) (fun e he => by simp [he])).toRBl
      have hL : ((List.range n).map (cutB l x dn)).length = n := by simp
      refine ⟨some ⟨w2.heap.size, 0, none⟩, n, ?_, ?_, ?_, fun h => (by cases h), HHw.out.1⟩
      · rw [hL]; rfl
      · rw [hL]; exact hR
      · rw [hL]; exact Nat.le_refl _
theorem pruned_any (nd : Int) (A : Option Addr) (n c : Nat) (l : List Lnk) (x : Wnt) (y : WSl) (Ad : Option Addr) (n' c' : Nat) (dn : List Bool) (w : World) (hr : RLnk w w.heap.size A n l) (hw : WArg w x y) (hd : RBl w w.heap.size Ad n' dn) (hn : n ≤ 1000) (hv1 : y.nv ≤ 1000) (hv2 : y.nn ≤ 1000) (hv3 : y.nl ≤ 1000) (hv4 : y.nc ≤ 1000) :
    Calls Try.prog 21 #[.agg #[.int .i64 nd, .slice A n c], .agg #[.int .i64 x.frm, .int .i64 x.too, .int .i64 x.bnd, .slice y.av y.nv y.cv, .slice y.an y.nn y.cn, .slice y.al y.nl y.cl, .slice y.ac y.nc y.cc], .slice Ad n' c'] w (BlAns (prunedS nd l x dn) w) := by
  by_cases h : rightS nd l x = 0
  · exact pruned_in nd A n c l x y Ad n' c' dn w hr hw hd hn hv1 hv2 hv3 hv4 h
  · exact pruned_not nd A n c l x y Ad n' c' dn w hr hw hv1 hv2 hv3 hv4 h
end Go.Proofs.Ytabgbhkpeeibaaa
