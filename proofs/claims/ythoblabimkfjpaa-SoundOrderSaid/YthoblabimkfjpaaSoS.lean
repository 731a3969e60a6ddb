/- SoundOrder. -/
import Derived.Test.YthoblabimkfjpaaSoR
import Derived.Test.YthoblabimkfjpaaSoJ
import Derived.Deep.RegionHeld3
namespace Go.Proofs.Ythoblabimkfjpaa
open Go.RowKit
set_option maxHeartbeats 12800000
set_option maxRecDepth 100000
def ordQ (ps ns : List Int) (m : Nat) : List (Rul × WSl) := (ordL ps ns m).map fun r => (r, slN)
theorem ordQ_map (ps ns : List Int) (m : Nat) : (ordQ ps ns m).map (·.1) = ordL ps ns m := by unfold ordQ; rw [List.map_map]; exact List.map_id _
theorem ordQ_len (ps ns : List Int) (m : Nat) : (ordQ ps ns m).length = m := by unfold ordQ ordL; simp
theorem ordQ_snoc (ps ns : List Int) (m : Nat) : rrow (ordQ ps ns (m + 1)) = rrow (ordQ ps ns m) ++ (rarr (ordR ps ns m) slN).toList := by
  unfold ordQ
  rw [ordL_succ, List.map_append, rrow_app]
  show _ ++ rrow [_] = _
  rw [rrow_one]
theorem ordQ_mem {ps ns : List Int} {m : Nat} {q : Rul × WSl} (h : q ∈ ordQ ps ns m) : ∃ i, i < m ∧ q = (ordR ps ns i, slN) := by
  obtain ⟨r, hr, rfl⟩ := List.mem_map.1 h
  obtain ⟨i, hi, rfl⟩ := List.mem_map.1 hr
  exact ⟨i, List.mem_range.1 hi, rfl⟩
theorem ordR_rng (ps ns : List Int) (i : Nat) (h : i ≤ 100) : RRng (ordR ps ns i) :=
  ⟨by simp [ordR, noRul], by simp only [I64, ordR]; omega, by simp only [I64, ordR]; omega, by simp only [I64, ordR]; omega, by simp [ordR, noRul, noMat], by simp [ordR, noRul, noMat], by simp [I64, ordR, noRul, noMat], by simp [I64, ordR, noRul, noMat], by simp [I64, ordR, noRul, noMat], by simp [I64, ordR, noRul, noMat], by simp [I64, ordR, noRul, noMat]⟩
theorem and3 (x : Int) : bits .and .i64 x 3 = x % 4 := i64_mask_any 2 (by omega) 3 rfl x
theorem ord_cells (ps ns : List Int) (i : Nat) (p q : Int) (hp : ps[i]? = some p) (hq : ns[i]? = some q) : (#[.string ⟨#[]⟩, .int .i64 (p % 4), .int .u32 0, .int .i64 0, .int .u32 0, .int .i64 0, .int .i64 0, .int .i64 0, .int .i64 0, .int .i64 (q % 4), .int .i64 (i : Int), .int .i64 0, .slice none 0 0, .slice none 0 0, .slice none 0 0, .slice none 0 0, .bool false] : Array Value) = (rarr (ordR ps ns i) slN).toList.toArray := by
  have h1 : ps.getD i 0 = p := by rw [List.getD_eq_getElem?_getD, hp]; rfl
  have h2 : ns.getD i 0 = q := by rw [List.getD_eq_getElem?_getD, hq]; rfl
  unfold ordR
  rw [h1, h2]
  rfl
theorem ordN_le (ns : List Int) (node : Int) (m : Nat) : ordN ns node m ≤ m := by
  unfold ordN
  have := List.length_filter_le (fun i => decide (ns.getD i 0 % 4 = node)) (List.range m)
  rwa [List.length_range] at this
theorem ord_row {W : World} {base m c : Nat} {A : Option Addr} {ps ns : List Int} (ho : W.ownsRow base 58 17 (.slice A m c) m (rrow (ordQ ps ns m))) : RRul W A m c (ordQ ps ns m) := by
  have := own_rrul (A := A) (c := c) (qs := ordQ ps ns m) (w := W) (base := base) (by rw [ordQ_len]; exact ho) (by
    intro q hm
    obtain ⟨i, _, rfl⟩ := ordQ_mem hm
    exact warg0 _ _ rfl rfl rfl rfl (by simp [ordR, noWnt]))
  rw [ordQ_len] at this
  exact this
theorem sorder_in (h : SoundSpec 16 20) (A1 : Option Addr) (n1 c1 : Nat) (l1 : List Int) (A2 : Option Addr) (n2 c2 : Nat) (l2 : List Int) (node : Int) (w : World) (h1 : RInt w w.heap.size A1 n1 l1) (h2 : RInt w w.heap.size A2 n2 l2)
    (hn : n1 ≤ 30) (hn2 : n1 ≤ n2) (hnode : 0 ≤ node ∧ node ≤ 3) : Calls Try.prog 5 #[.slice A1 n1 c1, .slice A2 n2 c2, .int .i64 node] w fun e w' => e = .returned (.bool true) ∧ Below w.heap.size w w' := by
  have HA := hid (alive14 h w)
  obtain ⟨o1, o2, o3⟩ := ord_at l1 l2 node n1
  have HAt := hid (fun (A : Option Addr) (c : Nat) (W : World) (hr : RRul W A n1 c (ordQ l1 l2 n1)) => h.ats A n1 c _ node W hr hn (fun q hq => by obtain ⟨i, hi, rfl⟩ := ordQ_mem hq; exact ordR_rng _ _ _ (by omega)) (fun q hq => by obtain ⟨i, hi, rfl⟩ := ordQ_mem hq; exact Nat.zero_le _) (fun q hq => by obtain ⟨i, hi, rfl⟩ := ordQ_mem hq; exact ⟨Nat.zero_le _, Nat.zero_le _, Nat.zero_le _, Nat.zero_le _⟩) (by unfold I64; omega))
  rw [ordQ_map] at HAt
  have O1 := hid o1; have O2 := hid o2; have O3 := hid o3
  have HR1 := hid h1; have HR2 := hid h2
  have t1 : decide ((30 : Int) < (n1 : Int)) = false := by simp; omega
  have t2 : decide ((n2 : Int) < (n1 : Int)) = false := by simp; omega
  have t3 : decide (node < 0) = false := by simp; omega
  have t2n : decide (n2 < n1) = false := decide_eq_false (by omega)
  have t4 : decide ((3 : Int) < node) = false := by simp; omega
  obtain ⟨i5, hi5, hz0, hz1, hz2⟩ := info_parts (show (Try.prog.info? 58).map (fun i => (i.zero, i.size, i.bytes)) = some (some (.agg #[.string ⟨#[]⟩, .int .i64 0, .int .u32 0, .int .i64 0, .int .u32 0, .int .i64 0, .int .i64 0, .int .i64 0, .int .i64 0, .int .i64 0, .int .i64 0, .int .i64 0, .slice none 0 0, .slice none 0 0, .slice none 0 0, .slice none 0 0, .bool false]), 17, 208) by kernel_rfl)
  have Ai := hid hi5; have Az0 := hid hz0; have Az1 := hid hz1; have Az2 := hid hz2
  clear h h1 h2 o1 o2 o3 hi5 hz0 hz1 hz2
  go_enter Try.func5, Try.ntmps5
  go_upto_region 4 with (first
    | (go_at_call 14; (with_reducible refine HA.out.mono ?_); rintro e' w1 ⟨rfl, hb1⟩))
  clear t1 t2 t3 t4 t2n
  have Hb1 := hid hb1
  go_wp2_with fail
  go_loopw [8, 9, 10] (fun ov nv iv wr => ∃ i : Nat, i ≤ n1 ∧ iv = .int .i64 i ∧ nv = .int .i64 (ordN l2 node i : Nat) ∧ Hid (wr.ownsRow w1.heap.size 58 17 ov i (rrow (ordQ l1 l2 i))) ∧ Hid (Below w1.heap.size w1 wr)) (fun _ _ iv _ => n1 - (intOf iv).toNat)
  case atStart => exact ⟨0, by omega, rfl, rfl, World.ownsRow_nil _ _ _ _, Below.refl _ _⟩
  case round =>
    obtain ⟨i, hi, rfl, rfl, HO, HB⟩ := hrel
    by_cases hlt : i < n1
    · have t5 : (i : Int) < (n1 : Int) := by omega
      have t6 : (i : Int) < (n2 : Int) := by omega
      obtain ⟨p, hp⟩ : ∃ p, l1[i]? = some p := ⟨l1[i]'(by rw [HR1.out.1]; exact hlt), List.getElem?_eq_getElem _⟩
      obtain ⟨q, hq⟩ : ∃ q, l2[i]? = some q := ⟨l2[i]'(by rw [HR2.out.1]; omega), List.getElem?_eq_getElem _⟩
      have hB0 := Hb1.out.trans (HB.out.mono Hb1.out.size)
      obtain ⟨b1, f1, rfl, hl1, k1⟩ := HR1.out.2 (by omega)
      obtain ⟨b2, f2, rfl, hl2, k2⟩ := HR2.out.2 (by omega)
      have z1 := (hB0.cell (p := ⟨b1, f1 + i, none⟩) hl1).trans (k1 i p hp)
      have z2 := (hB0.cell (p := ⟨b2, f2 + i, none⟩) hl2).trans (k2 i q hq)
      have hq2 : l2.getD i 0 = q := by rw [List.getD_eq_getElem?_getD, hq]; rfl
      have hN := ordN_succ l2 node i
      rw [hq2] at hN
      have HN := hid hN
      have Hsn := hid (ordQ_snoc l1 l2 i)
      have HC := hid (ord_cells l1 l2 i p q hp hq)
      have HZ : Hid (∀ w', Below w1.heap.size w1 w' → w'.cell? ⟨b1, f1 + i, none⟩ = some (.int .i64 p) ∧ w'.cell? ⟨b2, f2 + i, none⟩ = some (.int .i64 q)) := fun w' hb => ⟨((Hb1.out.trans (hb.mono Hb1.out.size)).cell (p := ⟨b1, f1 + i, none⟩) hl1).trans (k1 i p hp), ((Hb1.out.trans (hb.mono Hb1.out.size)).cell (p := ⟨b2, f2 + i, none⟩) hl2).trans (k2 i q hq)⟩
      have sD := HZ.out wr.drew HB.out.drew
      obtain ⟨y1, y2⟩ := sD
      have a1 := and3 p
      have a2 := and3 q
      obtain ⟨Ao, co, ho⟩ := own_form HO.out
      subst ho
      have Hlt := hid hlt
      clear hlt hp hq hN hq2 k1 k2
      have BA := hid (fun (o : Obj) => (HB.out.drew.alloc HB.out.drew.size o : Below w1.heap.size w1 (wr.drew.alloc o)))
      have sA := HZ.out _ (BA.out (.cells (rarr (ordR l1 l2 i) slN).toList.toArray 58))
      have hHC := HC.out
      have HRh := hid (fun (v8 : Value) (w8 : World) (h : w8.ownsRow w1.heap.size 58 17 v8 (i + 1) (rrow (ordQ l1 l2 i) ++ (rarr (ordR l1 l2 i) slN).toList)) => (by rw [Hsn.out]; exact h : w8.ownsRow w1.heap.size 58 17 v8 (i + 1) (rrow (ordQ l1 l2 (i + 1)))))
      clear hHC
      go_wp2_with fail
      go_region_held3 (fun w' => w'.cell? ⟨b1, f1 + i, none⟩ = some (.int .i64 p) ∧ w'.cell? ⟨b2, f2 + i, none⟩ = some (.int .i64 q))
        (first | go_keep | exact sB | exact sD | exact HZ.out _ (BA.out _))
        (first | (refine step_append_some (by rfl) (.tmp 43) (.tmp 57) 40 (by rfl) w1.heap.size 58 i5 (.agg #[.string ⟨#[]⟩, .int .i64 0, .int .u32 0, .int .i64 0, .int .u32 0, .int .i64 0, .int .i64 0, .int .i64 0, .int .i64 0, .int .i64 0, .int .i64 0, .int .i64 0, .slice none 0 0, .slice none 0 0, .slice none 0 0, .slice none 0 0, .bool false]) 17 208 Try.underlying40 Ai.out Az0.out Az1.out Az2.out rfl (by decide) _ _ _ (by go_simp) (HO.out.alloc _) ⟨wr.heap.size, 0, none⟩ 1 1 (rarr (ordR l1 l2 i) slN).toList (by go_simp) (by rfl) (new_row HC.out) (fun u hu => rrow_cells_one [(ordR l1 l2 i, slN)] u (by rw [rrow_one]; exact hu)) (by unfold maxLen; omega) (by omega) (by have := HB.out.size; simp; omega) ?_; intro A8 c8 w8 hown8 hg8; have HO8 := hid hown8; have HB8 := hid (Below.grown (HB.out.drew.alloc HB.out.drew.size _) hg8 (by have := HB.out.size; simp; omega) (fun q hq => (HO.out.lt q hq).1)); have sB := HZ.out _ HB8.out; clear hown8))
      obtain ⟨x1, x2⟩ := HZ.out _ HB8.out
      have ewk : IntKind.i64.wrap ((i : Int) + 1) = (i : Int) + 1 := by rw [IntKind.wrap_i64]; omega
      have hNl := ordN_le l2 node i
      clear y1 y2 z1 z2 sA sB a1
      by_cases hqn : q % 4 = node
      · have d3 : (q % 4 == node) = true := by rw [beq_iff_eq]; exact hqn
        have d4 : decide (q % 4 = node) = true := decide_eq_true hqn
        have HN2 : Hid (ordN l2 node (i + 1) = ordN l2 node i + 1) := by show _ = _; rw [HN.out, if_pos hqn]
        have ewn : IntKind.i64.wrap ((ordN l2 node i : Int) + 1) = (ordN l2 node i : Int) + 1 := by rw [IntKind.wrap_i64]; omega
        clear hqn
        go_wp2_with fail
        go_roundw
        case rel => exact ⟨i + 1, by have := Hlt.out; omega, by go_num, by rw [HN2.out]; go_num, HRh.out _ _ HO8.out, HB8.out⟩
        case measure => have := Hlt.out; simp [intOf]; omega
      · have d3 : (q % 4 == node) = false := by rw [beq_eq_false_iff_ne]; exact hqn
        have d4 : decide (q % 4 = node) = false := decide_eq_false hqn
        have HN2 : Hid (ordN l2 node (i + 1) = ordN l2 node i) := by show _ = _; rw [HN.out, if_neg hqn]
        clear hqn
        go_wp2_with fail
        go_roundw
        case rel => exact ⟨i + 1, by have := Hlt.out; omega, by go_num, by rw [HN2.out], HRh.out _ _ HO8.out, HB8.out⟩
        case measure => have := Hlt.out; simp [intOf]; omega
    · obtain rfl : i = n1 := by omega
      obtain ⟨Ao, co, ho⟩ := own_form HO.out
      subst ho
      have hAt := HAt.out Ao co wr (ord_row HO.out)
      have HAt2 := hid hAt
      clear hAt
      have t5 : decide ((i : Int) < (i : Int)) = false := decide_eq_false (by omega)
      have t6 : decide (i < i) = false := decide_eq_false (by omega)
      obtain ⟨N, hN⟩ : ∃ N, ordN l2 node i = N := ⟨_, rfl⟩
      have hNl := ordN_le l2 node i
      rw [hN] at hNl ⊢
      have HNe := hid hN
      have tn : ((N : Int) != (N : Int)) = false := by simp
      have tn2 : (N != N) = false := by simp
      have HATS : Hid (∀ {A' : Option Addr} {c' : Nat} {ps : List (Rul × WSl)} {W : World}, ps.map (·.1) = atS node (ordL l1 l2 i) → RRul W A' ps.length c' ps → ps.length = N ∧ (∀ (j : Nat) (a : Rul × WSl), ps[j]? = some a → a.1.x.frm = node) ∧ (∀ (j : Nat) (a b : Rul × WSl), ps[j]? = some a → ps[j + 1]? = some b → Bef a.1 b.1)) := fun {A' c' ps W} hm hr => by
        refine ⟨?_, fun j a ha => ?_, fun j a b ha hb => ?_⟩
        · rw [← HNe.out, ← O1.out, ← hm, List.length_map]
        · exact (O2.out a.1 (by rw [← hm]; exact List.mem_map.2 ⟨a, List.mem_of_getElem? ha, rfl⟩)).1
        · have h3 := O3.out
          rw [← hm] at h3
          obtain ⟨ha1, ha2⟩ := List.getElem?_eq_some_iff.1 ha
          obtain ⟨hb1, hb2⟩ := List.getElem?_eq_some_iff.1 hb
          have := List.pairwise_iff_getElem.1 h3 j (j + 1) (by rw [List.length_map]; exact ha1) (by rw [List.length_map]; exact hb1) (Nat.lt_succ_self _)
          rw [List.getElem_map, List.getElem_map, ha2, hb2] at this
          exact this
      clear hN
      go_upto_region 13 with (first
        | (go_at_call 20; (with_reducible refine HAt2.out.mono ?_); rintro e' w2 ⟨A', c', ps, rfl, hm, hrr, hb2⟩; have HRR := hid hrr; have HB2 := hid hb2; obtain ⟨k1, k2, k3⟩ := HATS.out hm hrr; have K2 := hid k2; have K3 := hid k3; have K1 := hid k1; clear hm hrr hb2 k2 k3))
      go_wp2_with fail
      go_loopw [12] (fun v wx => ∃ j : Nat, j ≤ N ∧ v = .int .i64 j ∧ Hid (Below w2.heap.size w2 wx)) (fun v _ => N - (intOf v).toNat)
      case atStart => exact ⟨0, Nat.zero_le _, rfl, Below.refl _ _⟩
      case round =>
        obtain ⟨j, hj, rfl, HBx⟩ := hrel
        have HBz := hid (Hb1.out.trans (((HB.out.trans (HB2.out.mono HB.out.size)).trans (HBx.out.mono (HB.out.trans (HB2.out.mono HB.out.size)).size)).mono Hb1.out.size))
        by_cases hjl : j < N
        · have d1 : decide ((j : Int) < (N : Int)) = true := decide_eq_true (by omega)
          have d2 : decide (j < N) = true := decide_eq_true hjl
          have ewk : IntKind.i64.wrap ((j : Int) + 1) = (j : Int) + 1 := by rw [IntKind.wrap_i64]; omega
          have hps := K1.out
          obtain ⟨a, ha⟩ : ∃ a, ps[j]? = some a := ⟨_, List.getElem?_eq_getElem (by omega)⟩
          obtain ⟨b, off, rfl, hbl, hcell⟩ := HRR.out.row (by omega)
          have hcell2 := fun (i : Nat) (q : Rul × WSl) (j : Nat) (v : Value) (h1 : ps[i]? = some q) (h2 : (rarr q.1 q.2)[j]? = some v) => (HBx.out.cell (p := ⟨b, off + i * 17 + j, none⟩) hbl).trans (hcell i q j v h1 h2)
          have cF := hcell2 j a 9 (.int .i64 a.1.x.frm) ha rfl
          have cP := hcell2 j a 1 (.int .i64 a.1.pri) ha rfl
          have cT := hcell2 j a 10 (.int .i64 a.1.x.too) ha rfl
          have cT' : wr.cell? ⟨b, off + j * 17 + 9 + 1, none⟩ = some (.int .i64 a.1.x.too) := cT
          rw [K2.out j a ha] at cF
          obtain ⟨pa, hpa⟩ : ∃ pa, a.1.pri = pa := ⟨_, rfl⟩
          obtain ⟨ta, hta⟩ : ∃ ta, a.1.x.too = ta := ⟨_, rfl⟩
          rw [hpa] at cP
          rw [hta] at cT cT'
          have ix0 : (0 : Int) ≤ (j : Int) := by omega
          have ix1 : (j : Int) < (N : Int) := by omega
          have n1' : (node != node) = false := by simp
          have n2' : decide (node = node) = true := by simp
          have hlt' := hid hjl
          by_cases hj0 : j = 0
          · have d3 : decide ((0 : Int) < (j : Int)) = false := decide_eq_false (by omega)
            have d4 : decide (0 < j) = false := decide_eq_false (by omega)
            clear hps ha hcell hcell2 hpa hta hjl hj0
            go_wp2_with fail
            go_big_quiet (fail)
            go_wp2_with fail
            go_roundw
            case rel => exact ⟨j + 1, by have := hlt'.out; omega, by go_num, ⟨HBx.out.os, HBx.out.tape, HBx.out.output, HBx.out.size, HBx.out.block⟩⟩
            case measure => have := hlt'.out; simp [intOf]; omega
          · obtain ⟨j1, hj1⟩ : ∃ j1, j = j1 + 1 := ⟨j - 1, by omega⟩
            have d3 : decide ((0 : Int) < (j : Int)) = true := decide_eq_true (by omega)
            have d4 : decide (0 < j) = true := decide_eq_true (by omega)
            have ew1 : IntKind.i64.wrap ((j : Int) - 1) = (j1 : Int) := by rw [IntKind.wrap_i64, hj1]; push_cast; omega
            obtain ⟨bb, hbb⟩ : ∃ bb, ps[j1]? = some bb := ⟨_, List.getElem?_eq_getElem (by omega)⟩
            have hbef := K3.out j1 bb a hbb (by rw [← hj1]; exact ha)
            have eP := hcell2 j1 bb 1 (.int .i64 bb.1.pri) hbb rfl
            have eT := hcell2 j1 bb 10 (.int .i64 bb.1.x.too) hbb rfl
            have eT' : wr.cell? ⟨b, off + j1 * 17 + 9 + 1, none⟩ = some (.int .i64 bb.1.x.too) := eT
            obtain ⟨pb, hpb⟩ : ∃ pb, bb.1.pri = pb := ⟨_, rfl⟩
            obtain ⟨tb, htb⟩ : ∃ tb, bb.1.x.too = tb := ⟨_, rfl⟩
            unfold Bef at hbef
            rw [hpb, htb, hpa, hta] at hbef
            rw [hpb] at eP
            rw [htb] at eT eT'
            have jx0 : (0 : Int) ≤ (j1 : Int) := by omega
            have jx1 : (j1 : Int) < (N : Int) := by omega
            have f1 : decide (pb < pa) = false := decide_eq_false (by omega)
            by_cases hpe : pa = pb
            · have f2 : (pa == pb) = true := by rw [beq_iff_eq]; exact hpe
              have f2' : decide (pa = pb) = true := decide_eq_true hpe
              have f3 : decide (ta ≤ tb) = false := decide_eq_false (by omega)
              have HJ := hid hj1
              clear hps ha hcell hcell2 hpa hta hjl hj0 hbef hpe hj1 hbb hpb htb
              go_wp2_with fail
              go_big_quiet (fail)
              go_wp2_with fail
              go_roundw
              case rel => exact ⟨j + 1, by have := hlt'.out; omega, by go_num, ⟨HBx.out.os, HBx.out.tape, HBx.out.output, HBx.out.size, HBx.out.block⟩⟩
              case measure => have := hlt'.out; simp [intOf]; omega
            · have f2 : (pa == pb) = false := by rw [beq_eq_false_iff_ne]; exact hpe
              have f2' : decide (pa = pb) = false := decide_eq_false hpe
              have HJ := hid hj1
              clear hps ha hcell hcell2 hpa hta hjl hj0 hbef hpe hj1 hbb hpb htb
              go_wp2_with fail
              go_big_quiet (fail)
              go_wp2_with fail
              go_roundw
              case rel => exact ⟨j + 1, by have := hlt'.out; omega, by go_num, ⟨HBx.out.os, HBx.out.tape, HBx.out.output, HBx.out.size, HBx.out.block⟩⟩
              case measure => have := hlt'.out; simp [intOf]; omega
        · obtain rfl : j = N := by omega
          have d1 : decide ((j : Int) < (j : Int)) = false := decide_eq_false (by omega)
          have d2 : decide (j < j) = false := decide_eq_false (by omega)
          go_wp2_with fail
          go_ret
          exact ⟨rfl, HBz.out⟩
theorem sorder_any (h : SoundSpec 16 20) (A1 : Option Addr) (n1 c1 : Nat) (l1 : List Int) (A2 : Option Addr) (n2 c2 : Nat) (l2 : List Int) (node : Int) (w : World) (h1 : RInt w w.heap.size A1 n1 l1) (h2 : RInt w w.heap.size A2 n2 l2) : Calls Try.prog 5 #[.slice A1 n1 c1, .slice A2 n2 c2, .int .i64 node] w fun e w' => e = .returned (.bool true) ∧ Below w.heap.size w w' := by
  have HA := hid (alive14 h w)
  by_cases a1 : 30 < n1
  · have t1 : decide ((30 : Int) < (n1 : Int)) = true := by simp; omega
    clear h h1 h2 a1
    go_enter Try.func5, Try.ntmps5
    go_wp2_with (go_at_call 14; (with_reducible refine HA.out.mono ?_); rintro e' w1 ⟨rfl, hb1⟩)
    go_ret
    exact ⟨rfl, hb1⟩
  · have t1 : decide ((30 : Int) < (n1 : Int)) = false := by simp; omega
    by_cases a2 : n2 < n1
    · have t2 : decide ((n2 : Int) < (n1 : Int)) = true := by simp; omega
      have t2n : decide (n2 < n1) = true := decide_eq_true a2
      clear h h1 h2 a1 a2
      go_enter Try.func5, Try.ntmps5
      go_wp2_with (go_at_call 14; (with_reducible refine HA.out.mono ?_); rintro e' w1 ⟨rfl, hb1⟩)
      go_ret
      exact ⟨rfl, hb1⟩
    · have t2 : decide ((n2 : Int) < (n1 : Int)) = false := by simp; omega
      have t2n : decide (n2 < n1) = false := decide_eq_false a2
      by_cases a3 : node < 0
      · have t3 : decide (node < 0) = true := decide_eq_true a3
        clear h h1 h2 a1 a2 a3
        go_enter Try.func5, Try.ntmps5
        go_wp2_with (go_at_call 14; (with_reducible refine HA.out.mono ?_); rintro e' w1 ⟨rfl, hb1⟩)
        go_ret
        exact ⟨rfl, hb1⟩
      · have t3 : decide (node < 0) = false := decide_eq_false a3
        by_cases a4 : 3 < node
        · have t4 : decide ((3 : Int) < node) = true := decide_eq_true a4
          clear h h1 h2 a1 a2 a3 a4
          go_enter Try.func5, Try.ntmps5
          go_wp2_with (go_at_call 14; (with_reducible refine HA.out.mono ?_); rintro e' w1 ⟨rfl, hb1⟩)
          go_ret
          exact ⟨rfl, hb1⟩
        · clear t1 t2 t2n t3 HA
          exact sorder_in h A1 n1 c1 l1 A2 n2 c2 l2 node w h1 h2 (by omega) (by omega) (by omega)
end Go.Proofs.Ythoblabimkfjpaa
