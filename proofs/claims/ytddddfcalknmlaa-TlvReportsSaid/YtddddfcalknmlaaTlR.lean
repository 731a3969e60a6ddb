/- waymarkref1.GetItems. -/
import Derived.Test.YtddddfcalknmlaaTlG
import Derived.Deep.RegionHeld3
import Derived.Deep.RegionWith
import Derived.IntWalk
import Derived.Deep.AppendLies
namespace Go.Proofs.Ytddddfcalknmlaa
open Go.RowKit
set_option maxHeartbeats 3200000
set_option maxRecDepth 100000
/-- 'append([]T(nil), x...)', whatever x, as a step of a region that draws. -/
theorem step_copy {P : Program} {ops : Array Oper} {o : Oper} {a : Act} {w : World} {K : Act → World → Prop} {Q : Exit → Act → World → Prop} {E : Prop} (hgd : o.guard = none) (s x : Operand) (t : TypeId)
    (ho : o.op = .call { callee := .builtin .append, args := #[s, x], argTypes := #[t, t] })
    (base : Nat) (e : TypeId) (i : TypeInfo) (z : Value) (size bytes : Nat) (ht : P.underlying t = some (.slice e)) (hi : P.info? e = some i) (hz : i.zero = some z)
    (hsize : i.size = size) (hby : i.bytes = bytes) (hzs : z.cells.size = size) (hsz : 0 < size)
    (hs : a.eval s = .slice none 0 0) (ad : Addr) (m c : Nat) (news : List Value) (hx : a.eval x = .slice (some ad) m c)
    (hl : news.length = m * size) (hnews : ∀ j u, news[j]? = some u → w.cell? (ad.add j) = some u) (h1 : ∀ u ∈ news, u.oneCell' = true)
    (h63 : m ≤ maxLen) (hbytes : m * bytes ≤ 140737488355328) (hbase : base ≤ w.heap.size)
    (h : ∀ D c1 w', w'.ownsRow base e size (.slice D m c1) m news → w.grownBy w' none → K (a.put o.dst (.slice D m c1)) w') :
    if Region.wanted o (yielded ops a.tmps) = true then Oper.wp P o a w K Q else E := by
  have hw : Region.wanted o (yielded ops a.tmps) = true := by simp [Region.wanted, hgd]
  rw [if_pos hw]
  refine wp_append_own w s x t ho base e i z size bytes ht hi hz hsize hby hzs hsz _ 0 [] hs (World.ownsRow_nil _ _ _ _) ad m c news hx hl hnews h1 (by omega) (by rw [Nat.zero_add]; exact hbytes) hbase ?_
  intro v' w' h2 h3 _
  rw [Nat.zero_add, List.nil_append] at h2
  have hv : ∃ D c1, v' = .slice D m c1 := by
    rcases h2.2 with ⟨rfl, h0⟩ | ⟨g, cap, cur, rfl, _⟩
    · exact ⟨none, 0, by rw [h0]⟩
    · exact ⟨_, _, rfl⟩
  obtain ⟨D, c1, rfl⟩ := hv
  exact h D c1 w' h2 h3
theorem three_src {w' : World} {B b off m k : Nat} {t p q : UInt8} {rest r cs : List UInt8} (h : RByt w' B (some ⟨b, off, none⟩) m rest) (hr : rest = t :: p :: q :: r) (hc : r.take k = cs) {j : Nat} {u : Value} (hj : (bcells cs)[j]? = some u) :
    w'.cell? (Addr.add ⟨b, off + 3, none⟩ j) = some u := by
  subst hr hc
  have hm : 0 < m := by have := h.1; simp at this; omega
  obtain ⟨b', off', h1, _, h3⟩ := h.2 hm
  simp only [Option.some.injEq, Addr.mk.injEq, and_true] at h1
  obtain ⟨rfl, rfl⟩ := h1
  rw [Go.WideShapes.add_plain]
  simp only [bcells, List.getElem?_map, Option.map_eq_some_iff] at hj
  obtain ⟨x, hx, rfl⟩ := hj
  rw [List.getElem?_take] at hx
  split at hx
  · have := h3 (3 + j) x (by rw [show 3 + j = j + 1 + 1 + 1 by omega]; simpa using hx)
    rw [Nat.add_assoc]
    exact this
  · cases hx
theorem refGet_any (A : Option Addr) (n c : Nat) (bs : List UInt8) (w : World) (hr : RByt w w.heap.size A n bs) (hc : n ≤ c) (hn : n ≤ 10000000) : Calls Try.prog 11 #[.slice A n c] w (GetIAns bs w) := by
  have Hl := hid hr.1
  have HR := hid hr
  clear hr
  obtain ⟨i5, hi, hz0, hz1, hz2⟩ := info_parts Try.info5
  have Ai := hid hi; have Az0 := hid hz0; have Az1 := hid hz1; have Az2 := hid hz2
  clear hi hz0 hz1 hz2
  obtain ⟨i6, hi, hz0, hz1, hz2⟩ := info_parts Try.info26
  have Bi := hid hi; have Bz0 := hid hz0; have Bz1 := hid hz1; have Bz2 := hid hz2
  clear hi hz0 hz1 hz2
  go_enter Try.func11, Try.ntmps11
  go_wp2_with fail
  go_loopw [0, 4] (fun sv v wr => ∃ (A' : Option Addr) (m c' : Nat) (rest : List UInt8) (done : List Itm) (xs : List Value), sv = .slice A' m c' ∧ m ≤ c' ∧ Hid (getI bs = pre done (getI rest)) ∧ Hid (RByt wr w.heap.size A' m rest) ∧ wr.ownsRow w.heap.size 26 2 v done.length xs ∧ Hid (OItm wr w.heap.size xs done) ∧ done.length + m ≤ n ∧ Below w.heap.size w wr) (fun sv _ _ => lenOf sv)
  case atStart => exact ⟨_, _, _, bs, [], [], rfl, hc, (pre_nil _).symm, HR.out, World.ownsRow_nil _ _ _ _, OItm.nil _ _, by simp, Below.refl _ _⟩
  case round =>
    obtain ⟨A', m, c', rest, done, xs, rfl, hmc, HA, HRd, hown, HOI, hdl, hbel⟩ := hrel
    have hsz := hbel.size
    by_cases h0 : m = 0
    · subst h0
      go_wp2_with fail
      go_ret2
      have hrest : rest = [] := List.length_eq_zero_iff.1 HRd.out.1
      exact .inl ⟨done, by rw [HA.out, hrest, getI_nil, pre_end], _, xs, rfl, hown, HOI.out, hbel⟩
    · have t0 : 0 < m := by omega
      by_cases h3 : m < 3
      · have t1 : decide ((m : Int) < 3) = true := by simp; omega
        go_wp2_with fail
        go_ret2
        exact .inr ⟨by rw [HA.out, getI_short (by rw [HRd.out.1]; exact t0) (by rw [HRd.out.1]; exact h3)]; rfl, rfl, hbel⟩
      · have t1 : decide ((m : Int) < 3) = false := by simp; omega
        obtain ⟨b, off, rfl, hb, hcell⟩ := HRd.out.2 (by omega)
        obtain ⟨t, p, q, r, hrest⟩ : ∃ t p q r, rest = t :: p :: q :: r := by
          match rest, HRd.out.1 with
          | [], h => simp at h; omega
          | [_], h => simp at h; omega
          | [_, _], h => simp at h; omega
          | t :: p :: q :: r, _ => exact ⟨t, p, q, r, rfl⟩
        have c0 : wr.cell? ⟨b, off, none⟩ = some (.int .u8 (t.toNat : Int)) := hcell 0 t (by rw [hrest]; rfl)
        have c1 : wr.cell? ⟨b, off + 1, none⟩ = some (.int .u8 (p.toNat : Int)) := hcell 1 p (by rw [hrest]; rfl)
        have c2 : wr.cell? ⟨b, off + 2, none⟩ = some (.int .u8 (q.toNat : Int)) := hcell 2 q (by rw [hrest]; rfl)
        have y0 := UInt8.toNat_lt t
        have y1 := UInt8.toNat_lt p
        have y2 := UInt8.toNat_lt q
        have Hrest := hid hrest
        have j2 := join2 p q
        obtain ⟨k, hk⟩ : ∃ k, num2 p q = k := ⟨_, rfl⟩
        have Hk := hid hk
        rw [hk] at j2
        have hk6 : k < 65536 := by rw [← hk]; exact num2_lt p q
        clear hcell hrest hk
        go_wp2_with fail
        go_big_quiet (fail)
        clear j2 c1 c2
        by_cases h2 : m < 3 + k
        · have t2 : decide ((m : Int) < 3 + (k : Int)) = true := by simp; omega
          go_wp2_with fail
          go_ret2
          refine .inr ⟨?_, rfl, hbel.trans ⟨rfl, rfl, rfl, Nat.le_refl _, fun _ _ => rfl⟩⟩
          rw [HA.out, Hrest.out, getI_cut (by have := HRd.out.1; rw [Hrest.out] at this; simp at this; rw [Hk.out]; omega)]
          rfl
        · have t2 : decide ((m : Int) < 3 + (k : Int)) = false := by simp; omega
          go_wp2_with fail
          obtain ⟨cs, hcs⟩ : ∃ cs, r.take k = cs := ⟨_, rfl⟩
          have hrl : r.length + 3 = m := by have := HRd.out.1; rw [Hrest.out] at this; simpa using this
          have hcl : cs.length = k := by rw [← hcs, List.length_take]; omega
          have Hcs := hid hcs
          have Hcl := hid hcl
          have hown1 : (wr.drewN nq).ownsRow w.heap.size 26 2 u4 done.length xs := hown
          have HOI1 : Hid (OItm (wr.drewN nq) w.heap.size xs done) := HOI
          have HRd1 : Hid (RByt (wr.drewN nq) w.heap.size (some ⟨b, off, none⟩) m rest) := HRd
          have d0 : (wr.drewN nq).cell? ⟨b, off, none⟩ = some (.int .u8 (t.toNat : Int)) := c0
          have hb1 : Below w.heap.size w (wr.drewN nq) := hbel.trans ⟨rfl, rfl, rfl, Nat.le_refl _, fun _ _ => rfl⟩
          clear c0 hown HOI HRd hbel hsz hcs hcl
          generalize wr.drewN nq = w1 at *
          have hsz := hb1.size
          have e1 : IntKind.i64.wrap (3 + (k : Int)) = 3 + (k : Int) := IntWalk.i64_in _ (by omega)
          have e2 : (3 + (k : Int)).toNat = 3 + k := by omega
          have e3 : 0 ≤ 3 + (k : Int) := by omega
          have e4 : 3 + (k : Int) ≤ c' := by omega
          have e5 : 3 ≤ 3 + (k : Int) := by omega
          have e6 : IntKind.i64.wrap (t.toNat : Int) = (t.toNat : Int) := IntWalk.i64_in _ (by omega)
          have HX := hid (show ∀ w' : World, RByt w' w.heap.size (some ⟨b, off, none⟩) m rest → ∀ j u, (bcells cs)[j]? = some u → w'.cell? (Addr.add ⟨b, off + 3, none⟩ j) = some u from fun w' h j u hj => three_src h Hrest.out Hcs.out hj)
          obtain ⟨x, hx, hx2⟩ : ∃ x, (if c' = 3 then some (⟨b, off, none⟩ : Addr) else some ⟨b, off + 3, none⟩) = some ⟨b, x, none⟩ ∧ (k = 0 ∨ x = off + 3) := by
            by_cases h : c' = 3
            · exact ⟨off, by simp [h], .inl (by omega)⟩
            · exact ⟨off + 3, by simp [h], .inr rfl⟩
          have HX2 := hid (show ∀ w' : World, RByt w' w.heap.size (some ⟨b, off, none⟩) m rest → ∀ j u, (bcells cs)[j]? = some u → w'.cell? (Addr.add ⟨b, x, none⟩ j) = some u from fun w' h j u hj => by
            rcases hx2 with h0 | rfl
            · have : cs = [] := List.length_eq_zero_iff.1 (by rw [Hcl.out, h0])
              subst this; simp [bcells] at hj
            · exact HX.out w' h j u hj)
          clear hx2
          go_region_held3 (fun w' => w'.cell? ⟨b, off, none⟩ = some (.int .u8 (t.toNat : Int)))
            (first
              | go_keep
              | exact hk3
              | exact hk4)
            (first
              | ((refine step_copy (by rfl) (.const (.slice none 0 0)) (.tmp 35) 23 (by rfl) w.heap.size 5 i5 (.int .u8 0) 1 1 Try.underlying23 Ai.out Az0.out Az1.out Az2.out rfl (by decide) (by rfl) ⟨b, x, none⟩ k (c' - 3) (bcells cs) (by rfl) (by rw [bcells_len, Hcl.out]; omega) (HX2.out _ HRd1.out) (bcells_one _) (by unfold maxLen; omega) (by omega) (by show _ ≤ w1.heap.size; omega) ?_; intro D cD w3 hown3 hg3; have HO3 := hid hown3; have hb3 : Below w1.heap.size w1.drew w3 := grown_below hg3; have hw3 := own_below (w := w1.drew) hown1 hb3; have HI3 := hid (HOI1.out.below (w' := w3) ⟨hb3.os, hb3.tape, hb3.output, hb3.size, hb3.block⟩); have hk3 : w3.cell? ⟨b, off, none⟩ = some (.int .u8 (t.toNat : Int)) := (hb3.cell (p := ⟨b, off, none⟩) (by show b < _; omega)).trans d0; have hs3 : w1.heap.size ≤ w3.heap.size := hb3.size; clear hown3 hg3))
              | ((refine step_append_lies _ (by rfl) (.tmp 27) (.tmp 38) 22 (by rfl) w.heap.size 26 i6 (.agg #[.int .i64 0, .slice none 0 0]) 2 32 Try.underlying22 Bi.out Bz0.out Bz1.out Bz2.out rfl (by decide) u4 done.length xs (by rfl) (hw3.alloc _) ⟨w3.heap.size, 0, none⟩ 1 1 [.int .i64 (t.toNat : Int), .slice D k cD] (by rfl) (by rfl) (new_row rfl) (itm_row _ _ _ _) (by decide) (by unfold maxLen; omega) (by omega) (by simp; omega) (w3.heap.size + 1) (by simp) ?_; intro g4 c4 w4 hown4 hg4 _ _; have hb4 : Below w.heap.size w3 w4 := Below.grown ((Below.refl _ _).alloc (by omega) _) hg4 (by simp; omega) (fun q hq => (hw3.lt q hq).1); have hk4 : w4.cell? ⟨b, off, none⟩ = some (.int .u8 (t.toNat : Int)) := (hb4.cell (p := ⟨b, off, none⟩) hb).trans hk3)))
          clear e1 e2 e3 e4 e5 e6
          go_wp2_with fail
          all_goals
            have hoi4 := (HI3.out.snoc (e := ⟨(t.toNat : Int), cs⟩) hw3.1 (by rw [Hcl.out]; exact HO3.out)).below ((Below.refl _ _).alloc (Nat.le_refl _) (.cells #[.int .i64 (t.toNat : Int), .slice D k cD] 26))
            rw [show (⟨(t.toNat : Int), cs⟩ : Itm).data.length = k from Hcl.out] at hoi4
            have hoi5 := hoi4.kept (hw3.alloc _) (by decide) hg4
            have hb34' := (hb3.mono hsz).trans hb4
            have hb34 : Below w.heap.size w1 w4 := ⟨hb34'.os, hb34'.tape, hb34'.output, hb34'.size, hb34'.block⟩
            have hr4 := HRd1.out.below hb34
            have hdr : rest.drop (3 + k) = r.drop k := by rw [Hrest.out]; simp [Nat.add_comm 3]
            have HA4 : Hid (getI bs = pre (done ++ [⟨(t.toNat : Int), cs⟩]) (getI (rest.drop (3 + k)))) := by
              show _ = _
              rw [HA.out, hdr, Hrest.out, getI_step (by rw [Hk.out]; omega), pre_step, Hk.out, Hcs.out]
            have HOI5 := hid hoi5
            clear hoi4 hoi5 hdr
            go_roundw
            case rel =>
              refine ⟨_, _, _, rest.drop (3 + k), done ++ [⟨(t.toNat : Int), cs⟩], _, rfl, ?_, HA4, ?_, ?_, HOI5, ?_, hb1.trans hb34⟩
              · omega
              · first
                  | exact hr4.drop_no (by omega) (by omega)
                  | exact hr4.drop_at (by omega)
                  | (have h9 := hr4.drop (k := 3 + k) (by omega) hmc; simp only [Option.map_some, Go.WideShapes.add_plain] at h9; exact h9)
              · rw [List.length_append]; exact hown4
              · rw [List.length_append, List.length_singleton]; omega
            case measure => simp [lenOf]; omega
end Go.Proofs.Ytddddfcalknmlaa
