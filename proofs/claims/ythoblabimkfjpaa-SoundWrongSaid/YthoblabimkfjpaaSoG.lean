/- The reference's At. -/
import Derived.Test.YthoblabimkfjpaaSoF
import Derived.Test.YthoblabimkfjpaaWdD
import Derived.Test.YthoblabimkfjpaaRuB
import Derived.Deep.RegionHeld3
namespace Go.Proofs.Ythoblabimkfjpaa
open Go.RowKit
set_option maxHeartbeats 12800000
set_option maxRecDepth 100000
/-- Rules of a node, as far as they were looked at. -/
structure ASt (w : World) (v : Value) (out : List (Rul × WSl)) (wr : World) : Prop where
  bel : Below w.heap.size w wr
  own : wr.ownsRow w.heap.size 58 17 v out.length (rrow out)
  non : out = [] → v = .slice none 0 0
theorem ASt.drewN {w : World} {v : Value} {out : List (Rul × WSl)} {wr : World} (h : ASt w v out wr) (k : Nat) : ASt w v out (wr.drewN k) := ⟨below_drewN h.bel, h.own, h.non⟩
theorem ASt.cell {w : World} {b c : Nat} {out : List (Rul × WSl)} {wr : World} {m k j : Nat} {q : Rul × WSl} {x : Value} (h : ASt w (.slice (some ⟨b, 0, none⟩) m c) out wr) (hk : out[k]? = some q) (hx : (rarr q.1 q.2)[j]? = some x) : wr.cell? ⟨b, k * 17 + j, none⟩ = some x := by
  have k1 := h.own.cells (g := b) rfl _ _ (rrow_at hk hx)
  rw [Go.WideShapes.add_plain, Nat.zero_add] at k1
  exact k1
theorem ASt.shape {w : World} {v : Value} {out : List (Rul × WSl)} {wr : World} (h : ASt w v out wr) (h0 : 0 < out.length) : ∃ b c, v = .slice (some ⟨b, 0, none⟩) out.length c ∧ b < wr.heap.size ∧ w.heap.size ≤ b ∧ out.length ≤ c := by
  rcases h.own.2 with ⟨_, h1⟩ | ⟨g, cap, cur, he, hg, hh, h2, _⟩
  · omega
  · exact ⟨g, cap, he, pst_lt hh, hg, h2⟩
theorem step_append_opt {P : Program} {w : World} {ops : Array Oper} {o : Oper} {a : Act} {K : Act → World → Prop} {Q : Exit → Act → World → Prop} {E : Prop} (hgd : o.guard = none) (s x : Operand) (t : TypeId)
    (ho : o.op = .call { callee := .builtin .append, args := #[s, x], argTypes := #[t, t] })
    (base : Nat) (e : TypeId) (i : TypeInfo) (z : Value) (size bytes : Nat) (ht : P.underlying t = some (.slice e)) (hi : P.info? e = some i) (hz : i.zero = some z)
    (hsize : i.size = size) (hby : i.bytes = bytes) (hzs : z.cells.size = size) (hsz : 0 < size)
    (B : Option Addr) (cb : Nat) (n : Nat) (xs : List Value) (hs : a.eval s = .slice B n cb) (hown : w.ownsRow base e size (.slice B n cb) n xs)
    (A : Option Addr) (m c : Nat) (news : List Value) (hx : a.eval x = .slice A m c) (hA : A = none → m = 0 ∧ c = 0) (hl : news.length = m * size) (hnews : ∀ ad, A = some ad → ∀ j u, news[j]? = some u → w.cell? (ad.add j) = some u) (h1 : ∀ u ∈ news, u.oneCell' = true)
    (h63 : n + m ≤ maxLen) (hbytes : (n + m) * bytes ≤ 140737488355328) (hbase : base ≤ w.heap.size)
    (h : ∀ D c1 w', w'.ownsRow base e size (.slice D (n + m) c1) (n + m) (xs ++ news) → w.grownBy w' (Value.slice B n cb).ownBlock → K (a.put o.dst (.slice D (n + m) c1)) w') :
    if Region.wanted o (yielded ops a.tmps) = true then Oper.wp P o a w K Q else E := by
  cases A with
  | none =>
    obtain ⟨rfl, rfl⟩ := hA rfl
    have hn0 : news = [] := List.length_eq_zero_iff.1 (by omega)
    subst hn0
    have hw : Region.wanted o (yielded ops a.tmps) = true := by simp [Region.wanted, hgd]
    rw [if_pos hw]
    have hrun := run_append_owned_none (P := P) (w := w) base t o.type e i size ht hi (.slice B n cb) n xs hown
    unfold Oper.wp
    simp [execOp, ho, resolve, invoke, builtin, hs, hx, hrun, Result.andThen]
    exact h B cb w (by simpa using hown) (World.grownBy.refl _ _)
  | some ad =>
    exact step_append_some hgd s x t ho base e i z size bytes ht hi hz hsize hby hzs hsz _ n xs hs hown ad m c news hx hl (hnews ad rfl) h1 h63 hbytes hbase h
/-- What 'out[:k]' and 'out[k:]' are, whatever row was made. -/
theorem ASt.parts {w : World} {Ao : Option Addr} {m co k : Nat} {out : List (Rul × WSl)} {wv : World} {i5 : TypeInfo} (h : ASt w (.slice Ao m co) out wv) (Ai : Try.prog.info? 58 = some i5) (Az1 : i5.size = 17) (hm : out.length = m) (hk : k ≤ m) :
    ∃ (Ax : Option Addr) (cx : Nat), (Ao = none → k = 0 ∧ co = 0) ∧ (Ax = none → m - k = 0 ∧ cx = 0) ∧
      (∀ W, (Instr.slice 40 (.slice Ao m co) none (some (.int .i64 (k : Int))) none).run Try.prog W = .ok (.slice Ao k co) W) ∧
      (∀ W, (Instr.slice 40 (.slice Ao m co) (some (.int .i64 (k : Int))) none none).run Try.prog W = .ok (.slice Ax (m - k) cx) W) ∧
      (∀ w', Below wv.heap.size wv w' → ∀ ad, Ao = some ad → ∀ (j : Nat) (u : Value), (rrow (out.take k))[j]? = some u → w'.cell? (ad.add j) = some u) ∧
      (∀ w', Below wv.heap.size wv w' → ∀ ad, Ax = some ad → ∀ (j : Nat) (u : Value), (rrow (out.drop k))[j]? = some u → w'.cell? (ad.add j) = some u) := by
  by_cases h0 : m = 0
  · subst h0
    have ho : out = [] := List.length_eq_zero_iff.1 hm
    have h2 := h.non ho
    simp only [Value.slice.injEq] at h2
    obtain ⟨rfl, -, rfl⟩ := h2
    obtain rfl : k = 0 := by omega
    exact ⟨none, 0, fun _ => ⟨rfl, rfl⟩, fun _ => ⟨rfl, rfl⟩, fun W => run_nil_upto (P := Try.prog) Try.underlying40 Ai Az1 W, fun W => run_nil_from (P := Try.prog) Try.underlying40 Ai Az1 W, (fun _ _ ad had => by cases had), (fun _ _ ad had => by cases had)⟩
  · obtain ⟨bo, co', hsh, hbv, hbw, hmc⟩ := h.shape (by omega)
    simp only [Value.slice.injEq] at hsh
    obtain ⟨rfl, hmm, rfl⟩ := hsh
    have hmco : m ≤ co := by omega
    have HUp := fun W => run_upto (P := Try.prog) Try.underlying40 Ai Az1 bo 0 m co k (Nat.le_trans hk hmco) W
    obtain ⟨zo, hzo, HFr⟩ := run_from (P := Try.prog) Try.underlying40 Ai Az1 bo 0 m co k (k : Int) rfl hk
    refine ⟨some ⟨bo, zo, none⟩, co - k, (fun h => by cases h), (fun h => by cases h), HUp, HFr, ?_, ?_⟩
    · intro w' hb ad had j u hj
      cases had
      have hl := (List.getElem?_eq_some_iff.1 hj).1
      rw [rrow_take, List.getElem?_take] at hj
      split at hj
      · exact (hb.cell (p := (⟨bo, 0, none⟩ : Addr).add j) (by rw [Go.WideShapes.add_plain]; exact hbv)).trans (h.own.cells (g := bo) rfl _ _ hj)
      · cases hj
    · intro w' hb ad had j u hj
      cases had
      have hl := (List.getElem?_eq_some_iff.1 hj).1
      rw [rrow_drop _ _ (by rw [hm]; exact hk), List.getElem?_drop] at hj
      have hzo2 : zo = k * 17 := by
        rcases hzo with h5 | h5
        · rw [rrow_len, List.length_drop, hm] at hl; omega
        · omega
      rw [hzo2]
      have h6 := h.own.cells (g := bo) rfl _ _ hj
      rw [Go.WideShapes.add_plain, Nat.zero_add] at h6
      rw [Go.WideShapes.add_plain]
      exact (hb.cell (p := ⟨bo, k * 17 + j, none⟩) hbv).trans h6
/-- The row grown by the three appends. -/
theorem ASt.put {w : World} {Ao : Option Addr} {m co k N : Nat} {out : List (Rul × WSl)} {wv w7 : World} {v7 : Value} {r : Rul} {y : WSl} (h : ASt w (.slice Ao m co) out wv) (hm : out.length = m) (hk : k ≤ m) (hK : downK out r.pri out.length = k) (hb : Below wv.heap.size wv w7)
    (hN : N = k + 1 + (m - k)) (ho : w7.ownsRow wv.heap.size 58 17 v7 N (rrow (out.take k) ++ (rarr r y).toList ++ rrow (out.drop k))) : ASt w v7 (insQ out (r, y)) w7 := by
  have hl : (insQ out (r, y)).length = N := by rw [insQ_len]; omega
  have hs : w.heap.size ≤ wv.heap.size := h.bel.size
  have he : rrow (insQ out (r, y)) = rrow (out.take k) ++ (rarr r y).toList ++ rrow (out.drop k) := by
    unfold insQ
    show rrow (List.take (downK out r.pri out.length) out ++ [(r, y)] ++ List.drop (downK out r.pri out.length) out) = _
    rw [hK, rrow_app, rrow_app, rrow_one]
  refine ⟨h.bel.trans (hb.mono hs), ?_, fun h0 => ?_⟩
  · rw [hl, he]; exact own_mono ho hs
  · rw [h0] at hl; simp at hl; omega
end Go.Proofs.Ythoblabimkfjpaa
