/- dag.Hops. -/
import Derived.Test.YtcjilpgblbnebaaDkH
import Derived.Deep.RegionLaw
import Derived.Deep.DeepCutAuto
namespace Go.Proofs.Ytcjilpgblbnebaa
open Go.RowKit
set_option maxHeartbeats 6400000
set_option maxRecDepth 100000
theorem mk_ints (n : Nat) (hn : n ≤ 1000) (W : World) : (Instr.makeSlice 33 (.int .i64 (n : Int)) (.int .i64 (n : Int))).run Try.prog W = .ok (.slice (some ⟨W.heap.size, 0, none⟩) n n) (W.alloc (.cells (icells (rowOf n fun _ => 0)).toArray 3)) := by
  obtain ⟨i5, hi, hz0, hz1, hz2⟩ := info_parts (show (Try.prog.info? 3).map (fun i => (i.zero, i.size, i.bytes)) = some (some (.int .i64 0), 1, 8) by kernel_rfl)
  have h := run_make (P := Try.prog) W 33 3 i5 (.int .i64 0) Try.underlying33 hi hz0 .i64 .i64 (n : Int) (n : Int) (by omega) (Int.le_refl _) (by rw [hz2]; omega) (by omega)
  rw [hz1, Int.toNat_natCast] at h
  have hz : madeCells (Value.int .i64 0).cells (n * 1) = (icells (rowOf n fun _ => 0)).toArray := by
    rw [← Array.toArray_toList (xs := madeCells _ _), Nat.mul_one, show (Value.int .i64 0).cells = #[Value.int .i64 0] from rfl, toList_madeCells_one, ← rowOf_rep]
    simp [icells]
  rw [h, hz]
theorem new_cell1 (w : World) (x : Value) (t : TypeId) : ((w.alloc (.cells #[x] t)).drew).cell? ⟨w.heap.size, 0, none⟩ = some x := by
  show (w.alloc (.cells #[x] t)).cell? ⟨w.heap.size, 0, none⟩ = some x
  rw [cell_of_row _ _ _ _ _ _ (heap_alloc_new w _)]; rfl
theorem new_cell2 (w : World) (x : Value) (t : TypeId) (o : Obj) : (((w.alloc (.cells #[x] t)).alloc o).drew).cell? ⟨w.heap.size, 0, none⟩ = some x := by
  show ((w.alloc (.cells #[x] t)).alloc o).cell? ⟨w.heap.size, 0, none⟩ = some x
  have hb : Below (w.alloc (.cells #[x] t)).heap.size (w.alloc (.cells #[x] t)) ((w.alloc (.cells #[x] t)).alloc o) := Below.alloc (Below.refl _ _) (Nat.le_refl _) _
  rw [hb.cell (p := ⟨w.heap.size, 0, none⟩) (by simp), cell_of_row _ _ _ _ _ _ (heap_alloc_new w _)]; rfl
theorem new_cell3 (w : World) (x : Value) (t : TypeId) (o : Obj) : (((w.alloc o).alloc (.cells #[x] t)).drew).cell? ⟨w.heap.size + 1, 0, none⟩ = some x := by
  have := new_cell1 (w.alloc o) x t
  rw [size_alloc_eq] at this
  exact this
theorem new_irow (w : World) (N : Nat) (f : Nat → Nat) : IRow (w.alloc (.cells (icells (rowOf N f)).toArray 3)) w.heap.size (rowOf N f) := heap_alloc_new w _
theorem grow1 {w w5 : World} {o : Obj} (h : Below ((w.alloc o).drew).heap.size ((w.alloc o).drew) w5) : Below w.heap.size w w5 :=
  (((Below.refl w.heap.size w).alloc (Nat.le_refl _) o).drew).trans (h.mono (by show w.heap.size ≤ (w.alloc o).heap.size; simp))
theorem grow2 {w w5 : World} {o o' : Obj} (h : Below (((w.alloc o).alloc o').drew).heap.size (((w.alloc o).alloc o').drew) w5) : Below w.heap.size w w5 ∧ Below (w.alloc o).heap.size (w.alloc o) w5 ∧ Below ((w.alloc o).alloc o').heap.size ((w.alloc o).alloc o') w5 := by
  have h1 : Below ((w.alloc o).alloc o').heap.size ((w.alloc o).alloc o') w5 := ⟨h.os, h.tape, h.output, h.size, h.block⟩
  have h2 := ((Below.refl (w.alloc o).heap.size (w.alloc o)).alloc (Nat.le_refl _) o').trans (h1.mono (by simp))
  exact ⟨((Below.refl w.heap.size w).alloc (Nat.le_refl _) o).trans (h2.mono (by simp)), h2, h1⟩
theorem repeat_row {N : Nat} (hN0 : 1 ≤ N) (hN : N ≤ 40) (W : World) (b : Nat) (hb : b < W.heap.size) (hx : W.cell? ⟨b, 0, none⟩ = some (.int .i64 (N : Int))) :
    Calls Try.prog 22 #[.slice (some ⟨b, 0, none⟩) 1 1, .int .i64 (N : Int)] W fun e w' => ∃ G, e = .returned (.slice (some ⟨G, 0, none⟩) N N) ∧ W.heap.size ≤ G ∧ IRow w' G (rowOf N fun _ => N) ∧ Below W.heap.size W w' := by
  refine (repeat_any N b (N : Int) W hN0 hN hb hx).mono ?_
  rintro e' w' ⟨G, rfl, hG, hR, hb'⟩
  rw [rowOf_rep] at hR
  exact ⟨G, rfl, hG, hR, hb'⟩
/-- Two rows side by side. -/
structure Two (w : World) (N : Nat) (G1 G2 : Nat) (f1 f2 : Nat → Nat) : Prop where
  r1 : IRow w G1 (rowOf N f1)
  r2 : IRow w G2 (rowOf N f2)
  ne : G1 ≠ G2
def TwoPost (w1 : World) (N : Nat) (v1 v2 : Value) (wx : World) : Prop := ∃ G1 G2, v1 = .slice (some ⟨G1, 0, none⟩) N N ∧ v2 = .slice (some ⟨G2, 0, none⟩) N N ∧ Hid (Two wx N G1 G2 (fun _ => N) (fun _ => 0)) ∧ w1.heap.size ≤ G1 ∧ w1.heap.size ≤ G2 ∧ Below w1.heap.size w1 wx
theorem two_a {w1 w5 : World} {N G : Nat} {o : Obj} (hG : ((w1.alloc o).drew).heap.size ≤ G) (hR : IRow w5 G (rowOf N fun _ => N)) (b5 : Below w1.heap.size w1 w5) : TwoPost w1 N (.slice (some ⟨G, 0, none⟩) N N) (.slice (some ⟨w5.heap.size, 0, none⟩) N N) (w5.alloc (.cells (icells (rowOf N fun _ => 0)).toArray 3)) := by
  have h1 : w1.heap.size + 1 ≤ G := by rw [← size_alloc_eq w1 o]; exact hG
  have h2 := hR.lt
  exact ⟨G, _, rfl, rfl, ⟨hR.on ((Below.refl _ _).alloc (Nat.le_refl _) _), new_irow w5 N _, by omega⟩, by omega, b5.size, b5.alloc b5.size _⟩
theorem two_b {w1 w5 : World} {N G : Nat} {o : Obj} (hG : (((w1.alloc o).alloc (.cells (icells (rowOf N fun _ => 0)).toArray 3)).drew).heap.size ≤ G) (hR : IRow w5 G (rowOf N fun _ => N)) (b5 : Below w1.heap.size w1 w5) (b6 : Below ((w1.alloc o).alloc (.cells (icells (rowOf N fun _ => 0)).toArray 3)).heap.size ((w1.alloc o).alloc (.cells (icells (rowOf N fun _ => 0)).toArray 3)) w5) : TwoPost w1 N (.slice (some ⟨G, 0, none⟩) N N) (.slice (some ⟨w1.heap.size + 1, 0, none⟩) N N) w5 := by
  have h1 : w1.heap.size + 2 ≤ G := by
    have : ((w1.alloc o).alloc (.cells (icells (rowOf N fun _ => 0)).toArray 3)).heap.size ≤ G := hG
    rw [size_alloc_eq, size_alloc_eq] at this
    exact this
  have hz := (new_irow (w1.alloc o) N fun _ => 0).on b6
  rw [size_alloc_eq] at hz
  exact ⟨G, _, rfl, rfl, ⟨hR, hz, by omega⟩, by omega, by omega, b5⟩
theorem two_c {w1 w5 : World} {N G : Nat} {o : Obj} (hG : (((w1.alloc (.cells (icells (rowOf N fun _ => 0)).toArray 3)).alloc o).drew).heap.size ≤ G) (hR : IRow w5 G (rowOf N fun _ => N)) (b5 : Below w1.heap.size w1 w5) (b6 : Below (w1.alloc (.cells (icells (rowOf N fun _ => 0)).toArray 3)).heap.size (w1.alloc (.cells (icells (rowOf N fun _ => 0)).toArray 3)) w5) : TwoPost w1 N (.slice (some ⟨G, 0, none⟩) N N) (.slice (some ⟨w1.heap.size, 0, none⟩) N N) w5 := by
  have h1 : w1.heap.size + 2 ≤ G := by
    have : ((w1.alloc (.cells (icells (rowOf N fun _ => 0)).toArray 3)).alloc o).heap.size ≤ G := hG
    rw [size_alloc_eq, size_alloc_eq] at this
    exact this
  exact ⟨G, _, rfl, rfl, ⟨hR, (new_irow w1 N fun _ => 0).on b6, by omega⟩, by omega, by omega, b5⟩
theorem Two.set1 {w : World} {N G1 G2 b y : Nat} {f1 f2 f' : Nat → Nat} (h : Two w N G1 G2 f1 f2) (hf : ∀ v, f' v = if v = b then y else f1 v) : Two (w.setCell ⟨G1, b, none⟩ (.int .i64 ((y : Nat) : Int))) N G1 G2 f' f2 := by
  have h1 := h.r1.set (i := b) ((y : Nat) : Int)
  rw [rowOf_set (f' := f') hf] at h1
  exact ⟨h1, (heap_setCell_other _ _ _ _ (by show G2 ≠ G1; exact fun e => h.ne e.symm)).trans h.r2, h.ne⟩
theorem Two.set2 {w : World} {N G1 G2 b y : Nat} {f1 f2 f' : Nat → Nat} (h : Two w N G1 G2 f1 f2) (hf : ∀ v, f' v = if v = b then y else f2 v) : Two (w.setCell ⟨G2, b, none⟩ (.int .i64 ((y : Nat) : Int))) N G1 G2 f1 f' := by
  have h1 := h.r2.set (i := b) ((y : Nat) : Int)
  rw [rowOf_set (f' := f') hf] at h1
  exact ⟨(heap_setCell_other _ _ _ _ (by show G1 ≠ G2; exact h.ne)).trans h.r1, h1, h.ne⟩
theorem Two.on {w w' : World} {N G1 G2 : Nat} {f1 f2 : Nat → Nat} (h : Two w N G1 G2 f1 f2) (hb : Below w.heap.size w w') : Two w' N G1 G2 f1 f2 := ⟨h.r1.on hb, h.r2.on hb, h.ne⟩
theorem fAt_up {g : Nat → Nat → Nat} {f : Nat → Nat} {L : List Stp} (h0 : ∀ v, f v ≤ 0) (hg : ∀ b a c, b ≤ c → a ≤ c → g b a ≤ c + 1) (k v : Nat) : fAt g f L k v ≤ k := by
  unfold fAt
  have key : ∀ (M : List Stp) (f : Nat → Nat) (c : Nat), (∀ v, f v ≤ c) → ∀ v, (M.foldl (rstep g) f) v ≤ c + M.length := by
    intro M
    induction M with
    | nil => intro f c hf v; exact hf v
    | cons s M ih =>
      intro f c hf v
      have := ih (rstep g f s) (c + 1) (fun v => by
        unfold rstep
        split
        · exact hg _ _ _ (hf _) (hf _)
        · exact Nat.le_succ_of_le (hf v)) v
      show (M.foldl (rstep g) (rstep g f s)) v ≤ c + (M.length + 1)
      omega
  have h1 := key (L.take k) f 0 h0 v
  rw [List.length_take] at h1
  omega
theorem results_tmp3 {fn : Func} {t u v : Tmp} (h : fn.results = #[.tmp t, .tmp u, .tmp v]) (tmps : Array Value) (P : Program) (w : World) :
    (results fn tmps).run P w = .ok (.tuple #[tmps.getD t undef, tmps.getD u undef, tmps.getD v undef]) w := by
  simp [results, h]
theorem hops_in (N : Nat) (A : Option Addr) (n c : Nat) (l : List Lnk) (Ad : Option Addr) (n' c' : Nat) (dn : List Bool) (S T : Nat) (w : World) (hr : GArg w (N : Int) A n c l) (hd : DArg w Ad n' c' dn) (h : (checkS (N : Int) l).2 = 0) (hS : S < N) (hT : T < N) (h0 : 0 ≤ dAt (distS N l dn T) (S : Int)) :
    Calls Try.prog 9 #[.agg #[.int .i64 (N : Int), .slice A n c], .slice Ad n' c', .int .i64 (S : Int), .int .i64 (T : Int)] w fun e w' => e = .returned (.tuple #[.int .i64 ((tr (nxL N l dn (distS N l dn T)) (distS N l dn T) S).2.1 : Int), .int .i64 ((tr (nxL N l dn (distS N l dn T)) (distS N l dn T) S).2.2 : Int), .bool true]) ∧ Below w.heap.size w w' := by
  have hok := gok_of h
  have hnd : N ≤ 40 := hok.2.2.1
  have hN1 : 1 ≤ N := hok.2.1
  have hSt := Held.start w (N : Int) A n c
  obtain ⟨f1, hf1⟩ : ∃ f : Nat → Nat, (fun v => if v = S then 0 else N) = f := ⟨_, rfl⟩
  obtain ⟨f2, hf2⟩ : ∃ f : Nat → Nat, (fun _ => 0) = f := ⟨_, rfl⟩
  obtain ⟨p1, hp1⟩ : ∃ p : Nat → Nat → Nat, (fun b a => min b (a + 1)) = p := ⟨_, rfl⟩
  obtain ⟨p2, hp2⟩ : ∃ p : Nat → Nat → Nat, (fun b a => max b (a + 1)) = p := ⟨_, rfl⟩
  have HSp : Hid (Calls Try.prog 21 #[.agg #[.int .i64 (N : Int), .slice A n c], .slice Ad n' c', .int .i64 (S : Int), .int .i64 (T : Int)] (w.alloc (.cells #[.int .i64 (N : Int), .slice A n c] 24)) fun e w' => ∃ v L m, e = .returned (.tuple #[v, .bool true]) ∧ StpIn N L ∧ L.foldl (rstep p1) f1 T = (tr (nxL N l dn (distS N l dn T)) (distS N l dn T) S).2.1 ∧ L.foldl (rstep p2) f2 T = (tr (nxL N l dn (distS N l dn T)) (distS N l dn T) S).2.2 ∧ w'.ownsRow (w.heap.size + 1) 54 3 v m (scells L) ∧ L.length = m ∧ m ≤ 9600 ∧ Held w (N : Int) A n c w') := by
    refine (steps_in N A n c l Ad n' c' dn S T _ (hr.on hSt.1) (hd.on hSt.1) h hS hT h0).mono ?_
    rintro e w' ⟨v, vs, rfl, hf, hown, hl, hb⟩
    rw [size_alloc_eq] at hown
    refine ⟨v, _, _, rfl, steps_stp hok hS hT hf, ?_, ?_, hown, rfl, hl, hSt.next hb⟩
    · rw [← hp1, ← hf1, row_few hok hS hT hf h0, few_top hok]
    · rw [← hp2, ← hf2, row_many hok hS hT hf h0]
  obtain ⟨g0, g1⟩ := hSt.cells
  obtain ⟨X, hX⟩ : ∃ X, (tr (nxL N l dn (distS N l dn T)) (distS N l dn T) S).2.1 = X := ⟨_, rfl⟩
  obtain ⟨Y, hY⟩ : ∃ Y, (tr (nxL N l dn (distS N l dn T)) (distS N l dn T) S).2.2 = Y := ⟨_, rfl⟩
  rw [hX, hY] at HSp
  rw [hX, hY]
  have HRp := hid (fun (W : World) (b : Nat) (hb : b < W.heap.size) (hx : W.cell? ⟨b, 0, none⟩ = some (.int .i64 (N : Int))) => repeat_row hN1 hnd W b hb hx)
  have HMk := mk_ints N (by omega)
  have Hf1 := hid hf1
  have Hf2 := hid hf2
  have Hp1 := hid hp1
  have Hp2 := hid hp2
  clear hr hd h h0 hok hX hY hf1 hf2 hp1 hp2
  go_enter Try.func9, Try.ntmps9
  go_upto_region 4 with (first
    | (go_at_call 21; (with_reducible refine HSp.out.mono ?_); rintro e' w1 ⟨v1, L, m, rfl, hin, hfin, hfin2, hown1, hLm, hm, h1⟩; obtain ⟨AL, cL, rfl, hmc, hcL⟩ := own_stps hown1 hLm; obtain ⟨g2, g3⟩ := h1.cells; have HIn := hid hin; have HFin := hid hfin; have HFin2 := hid hfin2; have HLm := hid hLm; have HcL := hid hcL; clear hin hfin hfin2 hown1 hLm hcL))
  have hwlt := h1.lt
  clear HSp g0 g1 hSt
  go_cut [13, 14] (fun s1 s2 wx => TwoPost w1 N s1 s2 wx)
  case first =>
    go_region_law (first
      | (go_simp; go_at_call 22; (with_reducible refine (HRp.out _ w1.heap.size (by simp) (new_cell1 w1 _ _)).mono ?_); rintro e' w5 ⟨G, rfl, hG, hR5, hb5⟩; have b5 := grow1 hb5; have q5 := (b5.cell (p := ⟨w.heap.size, 0, none⟩) hwlt).trans g2)
      | (go_simp; go_at_call 22; (with_reducible refine (HRp.out _ w1.heap.size (by simp; omega) (new_cell2 w1 _ _ _)).mono ?_); rintro e' w5 ⟨G, rfl, hG, hR5, hb5⟩; obtain ⟨b5, _, b6⟩ := grow2 hb5; have q5 := (b5.cell (p := ⟨w.heap.size, 0, none⟩) hwlt).trans g2)
      | (go_simp; go_at_call 22; (with_reducible refine (HRp.out _ (w1.heap.size + 1) (by simp) (new_cell3 w1 _ _ _)).mono ?_); rintro e' w5 ⟨G, rfl, hG, hR5, hb5⟩; obtain ⟨b5, b6, _⟩ := grow2 hb5; have q5 := (b5.cell (p := ⟨w.heap.size, 0, none⟩) hwlt).trans g2))
    all_goals (go_wp2_with fail; go_meet; first | exact two_a hG hR5 b5 | exact two_b hG hR5 b5 b6 | exact two_c hG hR5 b5 b6)
  case rest =>
    obtain ⟨G1, G2, rfl, rfl, HT3, hG1, hG2, hb3⟩ := hcut
    have f3 := HT3.out.r1.frozen S
    have c3 := HT3.out.r1.cell (rowOf_get (f := fun _ => N) hS)
    have e3 : (S : Int) < (N : Int) := by omega
    have HT4 : Hid (Two (wc.setCell ⟨G1, S, none⟩ (.int .i64 0)) N G1 G2 (fAt p1 f1 L 0) (fAt p2 f2 L 0)) := by
      have e1 : fAt p1 f1 L 0 = fun v => if v = S then 0 else N := Hf1.out.symm
      have e2 : fAt p2 f2 L 0 = fun _ => 0 := Hf2.out.symm
      rw [e1, e2]
      exact HT3.out.set1 (y := 0) (fun v => rfl)
    have HH4 : Hid (Held w (N : Int) A n c (wc.setCell ⟨G1, S, none⟩ (.int .i64 0))) := (h1.next hb3).set (by omega)
    have HB4 : Hid (Below w1.heap.size w1 (wc.setCell ⟨G1, S, none⟩ (.int .i64 0))) := hb3.setCell hG1 _
    have HcL2 : Hid (∀ (i : Nat) (e : Stp), L[i]? = some e → ∃ b, AL = some ⟨b, 0, none⟩ ∧ b < w1.heap.size ∧ w1.cell? ⟨b, i * 3, none⟩ = some (.int .i64 e.e) ∧ w1.cell? ⟨b, i * 3 + 1, none⟩ = some (.int .i64 e.a) ∧ w1.cell? ⟨b, i * 3 + 2, none⟩ = some (.int .i64 e.b)) := by
      intro i e he
      have := (List.getElem?_eq_some_iff.1 he).1
      have h4 := HLm.out
      obtain ⟨b, e1, _, e2, e3⟩ := HcL.out (by omega)
      exact ⟨b, e1, e2, e3 i e he⟩
    have hG1w : w.heap.size < G1 := by omega
    have hG2w : w.heap.size < G2 := by omega
    have HL1 : Hid (∀ k v, fAt p1 f1 L k v ≤ N) := fun k v => fAt_le (fun v => by rw [← Hf1.out]; show (if v = S then 0 else N) ≤ N; split <;> omega) (fun a b h1 h2 => by rw [← Hp1.out]; exact Nat.le_trans (Nat.min_le_left _ _) h1) k v
    have HL2 : Hid (∀ k v, fAt p2 f2 L k v ≤ k) := fun k v => fAt_up (fun v => by rw [← Hf2.out]; exact Nat.le_refl _) (fun b a c h1 h2 => by rw [← Hp2.out]; show max b (a + 1) ≤ c + 1; omega) k v
    clear HcL HT3 hb3 h1 g2 g3 HRp HMk hwlt
    go_wp2_with fail
    clear f3 c3 e3
    go_loopw [16, 41] (fun _ i wr => ∃ k : Nat, k ≤ m ∧ i = .int .i64 k ∧ Hid (Two wr N G1 G2 (fAt p1 f1 L k) (fAt p2 f2 L k)) ∧ Hid (Held w (N : Int) A n c wr) ∧ Hid (Below w1.heap.size w1 wr)) (fun _ i _ => m - (intOf i).toNat)
    case atStart => exact ⟨0, Nat.zero_le _, rfl, HT4, HH4, HB4⟩
    case round =>
      obtain ⟨k, hk, rfl, HRw, HHw, HBw⟩ := hrel
      by_cases hlt : k < m
      · obtain ⟨s, hs⟩ : ∃ s, L[k]? = some s := ⟨L[k]'(by rw [HLm.out]; exact hlt), List.getElem?_eq_getElem _⟩
        obtain ⟨e, a, b, rfl, ha, hb, _⟩ := HIn.out s (List.mem_of_getElem? hs)
        obtain ⟨bl, rfl, hbl, q0, q1, q2⟩ := HcL2.out k _ hs
        simp only at q0 q1 q2
        have r0 := (HBw.out.cell (p := ⟨bl, k * 3, none⟩) hbl).trans q0
        have r1 := (HBw.out.cell (p := ⟨bl, k * 3 + 1, none⟩) hbl).trans q1
        have r2 := (HBw.out.cell (p := ⟨bl, k * 3 + 2, none⟩) hbl).trans q2
        have Hst1 := hid (fun v => fAt_step (g := p1) (f := f1) hs v)
        have Hst2 := hid (fun v => fAt_step (g := p2) (f := f2) hs v)
        have Ha1 := HL1.out k a
        have Hb1 := HL1.out k b
        have Ha2 := HL2.out k a
        have Hb2 := HL2.out k b
        obtain ⟨F1, hF1⟩ : ∃ F, fAt p1 f1 L k = F := ⟨_, rfl⟩
        obtain ⟨F2, hF2⟩ : ∃ F, fAt p2 f2 L k = F := ⟨_, rfl⟩
        rw [hF1, hF2] at HRw
        rw [hF1] at Hst1 Ha1 Hb1
        rw [hF2] at Hst2 Ha2 Hb2
        obtain ⟨wq, hwq⟩ : ∃ wq, wr.alloc (.cells #[.int .i64 (e : Int), .int .i64 (a : Int), .int .i64 (b : Int)] 54) = wq := ⟨_, rfl⟩
        have ba : Below wr.heap.size wr wq := by rw [← hwq]; exact Below.alloc (Below.refl _ _) (Nat.le_refl _) _
        have hbx : wq.heap[wr.heap.size]? = some (.cells #[.int .i64 (e : Int), .int .i64 (a : Int), .int .i64 (b : Int)] 54 (0, 0)) := by rw [← hwq]; exact heap_alloc_new _ _
        have Hbx := hid hbx
        have z1 : wq.cell? ⟨wr.heap.size, 1, none⟩ = some (.int .i64 (a : Int)) := by rw [cell_of_row _ _ _ _ _ _ hbx]; rfl
        have z2 : wq.cell? ⟨wr.heap.size, 2, none⟩ = some (.int .i64 (b : Int)) := by rw [cell_of_row _ _ _ _ _ _ hbx]; rfl
        have HRq := hid (HRw.out.on ba)
        have cA := HRq.out.r1.cell (rowOf_get (f := F1) ha)
        have cB := HRq.out.r1.cell (rowOf_get (f := F1) hb)
        have fB := HRq.out.r1.frozen b
        have HHq := hid (HHw.out.next ba)
        have HBq := hid (HBw.out.trans (ba.mono HBw.out.size))
        have hl1 := HRw.out.r1.lt
        have hl2 := HRw.out.r2.lt
        have e1 : (a : Int) < (N : Int) := by omega
        have e2 : (b : Int) < (N : Int) := by omega
        have hw1 : IntKind.i64.wrap ((F1 a : Int) + 1) = (F1 a : Int) + 1 := by rw [IntKind.wrap_i64]; omega
        have hw2 : IntKind.i64.wrap ((F2 a : Int) + 1) = (F2 a : Int) + 1 := by rw [IntKind.wrap_i64]; omega
        obtain ⟨y1, hy1⟩ : ∃ y, p1 (F1 b) (F1 a) = y := ⟨_, rfl⟩
        obtain ⟨y2, hy2⟩ : ∃ y, p2 (F2 b) (F2 a) = y := ⟨_, rfl⟩
        have hmn : (if (F1 a : Int) + 1 < (F1 b : Int) then (F1 a : Int) + 1 else (F1 b : Int)) = (y1 : Int) := by
          rw [← hy1, ← Hp1.out]
          show _ = ((min (F1 b) (F1 a + 1) : Nat) : Int)
          split <;> omega
        have hmx : (if (F2 b : Int) < (F2 a : Int) + 1 then (F2 a : Int) + 1 else (F2 b : Int)) = (y2 : Int) := by
          rw [← hy2, ← Hp2.out]
          show _ = ((max (F2 b) (F2 a + 1) : Nat) : Int)
          split <;> omega
        rw [hy1] at Hst1
        rw [hy2] at Hst2
        clear hs q0 q1 q2 hF1 hF2 hbx hy1 hy2
        go_wp2_with fail
        go_still_tail 16, (by kernel_rfl)
        change wpList _ _ _ _ _ wq.drew
        have HRd : Hid (Two wq.drew N G1 G2 F1 F2) := ⟨HRq.out.r1, HRq.out.r2, HRq.out.ne⟩
        have HHd : Hid (Held w (N : Int) A n c wq.drew) := HHq.out.drew
        have HBd : Hid (Below w1.heap.size w1 wq.drew) := HBq.out.drew
        have Hbd : Hid (wq.drew.heap[wr.heap.size]? = some (.cells #[.int .i64 (e : Int), .int .i64 (a : Int), .int .i64 (b : Int)] 54 (0, 0))) := Hbx
        have cB1 : wq.drew.cell? ⟨G1, b, none⟩ = some (.int .i64 (F1 b : Int)) := cB
        have fB1 : wq.drew.frozen? ⟨G1, b, none⟩ = false := fB
        obtain ⟨wd, hwd⟩ : ∃ wd, wq.drew = wd := ⟨_, rfl⟩
        rw [hwd] at HRd HHd HBd Hbd cB1 fB1 ⊢
        clear hwd hwq ba z1 z2 cA cB fB HRq HHq HBq Hbx
        have HTd : Hid (Two (wd.setCell ⟨G1, b, none⟩ (.int .i64 (y1 : Int))) N G1 G2 (fAt p1 f1 L (k + 1)) F2) := HRd.out.set1 Hst1.out
        have HHe : Hid (Held w (N : Int) A n c (wd.setCell ⟨G1, b, none⟩ (.int .i64 (y1 : Int)))) := HHd.out.set hG1w
        have HBe : Hid (Below w1.heap.size w1 (wd.setCell ⟨G1, b, none⟩ (.int .i64 (y1 : Int)))) := HBd.out.setCell hG1 _
        have hbe : (wd.setCell ⟨G1, b, none⟩ (.int .i64 (y1 : Int))).heap[wr.heap.size]? = some (.cells #[.int .i64 (e : Int), .int .i64 (a : Int), .int .i64 (b : Int)] 54 (0, 0)) := (heap_setCell_other _ _ _ _ (by show _ ≠ G1; omega)).trans Hbd.out
        go_wp2_with fail
        obtain ⟨we, hwe⟩ : ∃ we, wd.setCell ⟨G1, b, none⟩ (.int .i64 (y1 : Int)) = we := ⟨_, rfl⟩
        rw [hwe] at HTd HHe HBe hbe
        simp only [hwe]
        have z1 : we.cell? ⟨wr.heap.size, 1, none⟩ = some (.int .i64 (a : Int)) := by rw [cell_of_row _ _ _ _ _ _ hbe]; rfl
        have z2 : we.cell? ⟨wr.heap.size, 2, none⟩ = some (.int .i64 (b : Int)) := by rw [cell_of_row _ _ _ _ _ _ hbe]; rfl
        have cA := HTd.out.r2.cell (rowOf_get (f := F2) ha)
        have cB := HTd.out.r2.cell (rowOf_get (f := F2) hb)
        have fB := HTd.out.r2.frozen b
        clear HRd HHd HBd Hbd cB1 fB1 hwe hbe
        go_still_tail 16, (by kernel_rfl)
        change wpList _ _ _ _ _ we.drew
        have HRd : Hid (Two we.drew N G1 G2 (fAt p1 f1 L (k + 1)) F2) := ⟨HTd.out.r1, HTd.out.r2, HTd.out.ne⟩
        have HHd : Hid (Held w (N : Int) A n c we.drew) := HHe.out.drew
        have HBd : Hid (Below w1.heap.size w1 we.drew) := HBe.out.drew
        have cB1 : we.drew.cell? ⟨G2, b, none⟩ = some (.int .i64 (F2 b : Int)) := cB
        have fB1 : we.drew.frozen? ⟨G2, b, none⟩ = false := fB
        obtain ⟨wf, hwf⟩ : ∃ wf, we.drew = wf := ⟨_, rfl⟩
        rw [hwf] at HRd HHd HBd cB1 fB1 ⊢
        clear hwf z1 z2 cA cB fB HTd HHe HBe
        have HTf : Hid (Two (wf.setCell ⟨G2, b, none⟩ (.int .i64 (y2 : Int))) N G1 G2 (fAt p1 f1 L (k + 1)) (fAt p2 f2 L (k + 1))) := HRd.out.set2 Hst2.out
        go_wp2_with fail
        clear hmn hmx hw1 hw2
        go_roundw
        case rel => exact ⟨k + 1, by omega, by go_num, HTf, HHd.out.set hG2w, HBd.out.setCell hG2 _⟩
        case measure => simp [intOf]; omega
      · obtain rfl : k = m := by omega
        have HF1 : Hid (fAt p1 f1 L k T = X) := by
          show _ = _
          rw [fAt_all HLm.out]
          exact HFin.out
        have HF2 : Hid (fAt p2 f2 L k T = Y) := by
          show _ = _
          rw [fAt_all HLm.out]
          exact HFin2.out
        have c1 := HRw.out.r1.cell (rowOf_get (f := fAt p1 f1 L k) hT)
        have c2 := HRw.out.r2.cell (rowOf_get (f := fAt p2 f2 L k) hT)
        rw [HF1.out] at c1
        rw [HF2.out] at c2
        have e2 : (T : Int) < (N : Int) := by omega
        go_wp2_with fail
        go_big_quiet (fail)
        go_wp2_with fail
        go_ret3
        exact ⟨rfl, below_drewN HHw.out.1⟩
theorem dagHops_any : ∀ (nd : Int) (A : Option Addr) (n c : Nat) (l : List Lnk) (Ad : Option Addr) (n' c' : Nat) (dn : List Bool) (s t : Int) (w : World), GArg w nd A n c l → DArg w Ad n' c' dn → (-9223372036854775808 ≤ s ∧ s ≤ 9223372036854775807) → (-9223372036854775808 ≤ t ∧ t ≤ 9223372036854775807) →
    Calls Try.prog 9 #[.agg #[.int .i64 nd, .slice A n c], .slice Ad n' c', .int .i64 s, .int .i64 t] w fun e w' => e = .returned (.tuple #[.int .i64 ((waysS nd l dn s t).2.1 : Int), .int .i64 ((waysS nd l dn s t).2.2.1 : Int), .bool (waysS nd l dn s t).2.2.2]) ∧ Below w.heap.size w w' := by
  intro nd A n c l Ad n' c' dn s t w hr hd hs ht
  by_cases hw : NoWay nd l dn s t
  · rw [waysS_no hw]
    have hSt := Held.start w nd A n c
    have HSp := hid (steps_no nd A n c l Ad n' c' dn s t _ (hr.on hSt.1) (hd.on hSt.1) hs ht hw)
    obtain ⟨g0, g1⟩ := hSt.cells
    clear hr hd hs ht hw
    go_enter Try.func9, Try.ntmps9
    go_wp2_with (go_at_call 21; (with_reducible refine HSp.out.mono ?_); rintro e' w1 ⟨rfl, hb1⟩)
    go_ret3
    exact ⟨rfl, hSt.1.trans (hb1.mono hSt.1.size)⟩
  · unfold NoWay at hw
    obtain ⟨h1, h2, h3, h4, h5, h6⟩ := Classical.not_not.1 hw
    obtain ⟨N, rfl⟩ := Int.eq_ofNat_of_zero_le (show 0 ≤ nd by omega)
    obtain ⟨T, rfl⟩ := Int.eq_ofNat_of_zero_le h2
    obtain ⟨S, rfl⟩ := Int.eq_ofNat_of_zero_le h4
    rw [Int.toNat_natCast, Int.toNat_natCast] at h6
    rw [waysS_in h1 (by omega) (by omega) h6]
    exact hops_in N A n c l Ad n' c' dn S T w hr hd h1 (by omega) (by omega) h6
end Go.Proofs.Ytcjilpgblbnebaa
