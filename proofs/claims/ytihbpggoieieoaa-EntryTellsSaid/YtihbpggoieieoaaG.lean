import Derived.Test.YtihbpggoieieoaaP
import Derived.Deep.QuietTactic
import Derived.BigQuiet
namespace Go.Proofs.Ytihbpggoieieoaa
open Go.RowKit
set_option maxHeartbeats 1600000
set_option maxRecDepth 100000

def unw (x : Int) : Ent := ⟨x / 4096, x / 512 % 8, x % 256, x / 256 % 2 == 1⟩
def be4 (a b c d : UInt8) : Int := (a.toNat : Int) * 16777216 + (b.toNat : Int) * 65536 + (c.toNat : Int) * 256 + (d.toNat : Int)
def Ent.cells (e : Ent) : List Value := [.int .i64 e.lab, .int .i64 e.cls, .int .i64 e.ttl, .bool e.last]
def flat (l : List Ent) : List Value := l.flatMap Ent.cells
def entAt (bs : List UInt8) (k : Nat) : Ent := unw (be4 (bs.getD (4 * k) 0) (bs.getD (4 * k + 1) 0) (bs.getD (4 * k + 2) 0) (bs.getD (4 * k + 3) 0))
def entsOf (bs : List UInt8) (m : Nat) : List Ent := (List.range m).map (entAt bs)

theorem flat_app (a b : List Ent) : flat (a ++ b) = flat a ++ flat b := List.flatMap_append
theorem flat_len (l : List Ent) : (flat l).length = l.length * 4 := by
  induction l with
  | nil => rfl
  | cons e r ih => simp only [flat, List.flatMap_cons, List.length_append, List.length_cons] at *; rw [ih]; simp [Ent.cells]; omega
theorem flat_at {l : List Ent} {i : Nat} {e : Ent} (h : l[i]? = some e) (j : Nat) (hj : j < 4) : (flat l)[i * 4 + j]? = e.cells[j]? := by
  induction l generalizing i with
  | nil => simp at h
  | cons a r ih =>
    simp only [flat, List.flatMap_cons]
    cases i with
    | zero =>
      simp at h; subst h
      rw [List.getElem?_append_left (by simp [Ent.cells]; omega)]
      simp
    | succ i =>
      rw [List.getElem?_append_right (by simp [Ent.cells]; omega)]
      have := ih (i := i) (by simpa using h)
      rw [show (i + 1) * 4 + j - a.cells.length = i * 4 + j by simp [Ent.cells]; omega]
      exact this
theorem flat_one (l : List Ent) : ∀ u ∈ flat l, u.oneCell' = true := by
  intro u hu
  simp only [flat, List.mem_flatMap, Ent.cells] at hu
  obtain ⟨e, _, hu⟩ := hu
  simp at hu
  rcases hu with rfl | rfl | rfl | rfl <;> rfl
/-- An owned row of entries reads as entries. -/
theorem own_ent {w : World} {base : Nat} {v : Value} {n : Nat} {l : List Ent} (h : w.ownsRow base 38 4 v n (flat l)) : ∃ A cap, v = .slice A n cap ∧ REnt w w.heap.size A n l := by
  have hn : l.length = n := by have := h.1; rw [flat_len] at this; omega
  rcases Nat.eq_zero_or_pos n with h0 | h0
  · rcases h.2 with ⟨rfl, rfl⟩ | ⟨g, cap, cur, rfl, _⟩
    · exact ⟨none, 0, rfl, hn, fun h => by omega⟩
    · exact ⟨_, cap, rfl, hn, fun h => by omega⟩
  · obtain ⟨g, cap, rfl, _, hlt⟩ := h.form h0
    refine ⟨_, cap, rfl, hn, fun _ => ⟨g, 0, rfl, hlt, fun i e he => ?_⟩⟩
    have hc := h.cells (g := g) rfl
    have f := fun j hj => flat_at he j hj
    have k := fun j u hj hu => by
      have := hc (i * 4 + j) u ((f j hj).trans hu)
      rwa [Go.WideShapes.add_plain] at this
    refine ⟨k 0 _ (by omega) rfl, ?_, ?_, ?_⟩
    · have := k 1 _ (by omega) rfl
      rwa [← Nat.add_assoc] at this
    · have := k 2 _ (by omega) rfl
      rwa [← Nat.add_assoc] at this
    · have := k 3 _ (by omega) rfl
      rwa [← Nat.add_assoc] at this
theorem entsOf_succ (bs : List UInt8) (k : Nat) : entsOf bs (k + 1) = entsOf bs k ++ [entAt bs k] := by
  unfold entsOf
  rw [List.range_succ, List.map_append]
  rfl
theorem entAt_eq {bs : List UInt8} {k j : Nat} {x0 x1 x2 x3 : UInt8} (hj : j = 4 * k) (h0 : bs[j]? = some x0) (h1 : bs[j + 1]? = some x1) (h2 : bs[j + 2]? = some x2) (h3 : bs[j + 3]? = some x3) : entAt bs k = unw (be4 x0 x1 x2 x3) := by
  subst hj
  simp [entAt, h0, h1, h2, h3]
theorem ent_row (e : Ent) : #[Value.int .i64 e.lab, .int .i64 e.cls, .int .i64 e.ttl, .bool e.last] = (flat [e]).toArray := by simp [flat, Ent.cells]
theorem flat_step {bs : List UInt8} {k : Nat} {e : Ent} (h : entAt bs k = e) : flat (entsOf bs (k + 1)) = flat (entsOf bs k) ++ flat [e] := by rw [entsOf_succ, flat_app, h]
/-- behind a round: draws, a call, a block for what is appended, the append -/
theorem below_round3 {w wr w3 w4 : World} {B nq : Nat} {o2 : Obj} {v : Value} {e : TypeId} {size n : Nat} {xs : List Value} (hB : B = w.heap.size) (h : Below B w wr) (h3 : Below wr.heap.size (wr.drewN nq) w3)
    (hown : wr.ownsRow B e size v n xs) (hg : (w3.alloc o2).grownBy w4 v.ownBlock) : Below B w w4 := by
  have hs1 := h.size
  have hs3 := h3.size
  have a1 : Below B w (wr.drewN nq) := ⟨h.os, h.tape, h.output, h.size, h.block⟩
  have a2 : Below B w w3 := a1.trans (h3.mono (by omega))
  have hs4 := a2.size
  refine Below.grown (a2.alloc (by omega) o2) hg (by simp; omega) (fun k hk => (hown.lt k hk).1)

/-- What Get answers: the entries, or that there are none. -/
def getS (bs : List UInt8) : Option (List Ent) := if bs.length % 4 = 0 ∧ bs.length ≤ 4000 ∧ isStk (entsOf bs (bs.length / 4)) = true then some (entsOf bs (bs.length / 4)) else none
def GetAns (bs : List UInt8) (w : World) (e : Ending) (w' : World) : Prop :=
  (∃ l, getS bs = some l ∧ ∃ v, e = .returned (.tuple #[v, .int .i64 0]) ∧ w'.ownsRow w.heap.size 38 4 v l.length (flat l) ∧ Below w.heap.size w w') ∨
  (getS bs = none ∧ e = .returned (.tuple #[.slice none 0 0, .int .i64 2]) ∧ Below w.heap.size w w')
theorem getS_at {bs : List UInt8} {n m : Nat} (hl : bs.length = n) (hm : n = 4 * m) (hn : n ≤ 4000) : getS bs = if isStk (entsOf bs m) = true then some (entsOf bs m) else none := by
  unfold getS
  rw [show bs.length / 4 = m by omega]
  by_cases h : isStk (entsOf bs m) = true <;> simp [h] <;> omega
theorem entsOf_len (bs : List UInt8) (m : Nat) : (entsOf bs m).length = m := by simp [entsOf]

theorem unpack_any (x : Int) (h : 0 ≤ x) (h' : x < 4294967296) (w : World) :
    Calls Try.prog 16 #[.int .u32 x] w fun e' w' => e' = .returned (.agg #[.int .i64 (unw x).lab, .int .i64 (unw x).cls, .int .i64 (unw x).ttl, .bool (unw x).last]) ∧ Below w.heap.size w w' := by
  have m1 : bits .and .u32 (x / 512) 7 = x / 512 % 8 := u32_mask 3 (by decide) 7 (by decide) _ (by omega) (by omega)
  have m2 : bits .and .u32 x 255 = x % 256 := u32_mask 8 (by decide) 255 (by decide) _ (by omega) (by omega)
  have m3 : bits .and .u32 (x / 256) 1 = x / 256 % 2 := u32_mask 1 (by decide) 1 (by decide) _ (by omega) (by omega)
  go_enter Try.func16, Try.ntmps16
  go_wp2
  refine bodyPost_ret (v := .agg #[.int .i64 (unw x).lab, .int .i64 (unw x).cls, .int .i64 (unw x).ttl, .bool (unw x).last]) (by simp [results, Try.results16, go_sem, unw]) rfl ⟨rfl, (Below.refl _ _).alloc (Nat.le_refl _) _⟩

theorem get_body (A : Option Addr) (n c : Nat) (bs : List UInt8) (w : World) (hn : 0 < n) (hm : n ≤ 4000) (h4 : n % 4 = 0) (hr : RByt w w.heap.size A n bs) :
    Calls Try.prog 10 #[.slice A n c] w (GetAns bs w) := by
  obtain ⟨i0, hi, hz0, hz1, hz2⟩ := info_parts Try.info38
  obtain ⟨hl, hc⟩ := hr
  obtain ⟨b, off, rfl, hb, hc⟩ := hc (by omega)
  have Hl := hid hl
  have Hi := hid hi; have Hz0 := hid hz0; have Hz1 := hid hz1; have Hz2 := hid hz2
  clear hi hz0 hz1 hz2 hl
  have t1 : (n : Int) % 4 = 0 := by omega
  have t2 : decide ((4000 : Int) < n) = false := by simp; omega
  obtain ⟨m, hm4⟩ : ∃ m, n = 4 * m := ⟨n / 4, by omega⟩
  have t3 : (n : Int) / 4 = (m : Int) := by omega
  have Hm := hid hm4
  clear hm4 h4
  go_enter Try.func10, Try.ntmps10
  go_wp2_with (at_make; refine wpList_make_own _ rfl _ _ 22 rfl w.heap.size 38 i0 (.agg #[.int .i64 0, .int .i64 0, .int .i64 0, .bool false]) 4 Try.underlying22 Hi.out Hz0.out Hz1.out _ _ _ m rfl rfl rfl (by rw [Hz2.out]; have := Hm.out; omega) (by unfold maxLen; have := Hm.out; omega) (Nat.le_refl _) ?_; intro w2 hown2 hg2)
  have hb2 : Below w.heap.size w w2 := grown_below hg2
  clear hg2 t1 t2 t3
  go_loopw [4, 5] (fun v i wr => ∃ k j : Nat, j ≤ n ∧ Hid (j = 4 * k) ∧ i = .int .i64 j ∧ wr.ownsRow w.heap.size 38 4 v k (flat (entsOf bs k)) ∧ Below w.heap.size w wr) (fun _ i _ => n - (intOf i).toNat)
  case atStart => exact ⟨0, 0, Nat.zero_le _, rfl, rfl, hown2, hb2⟩
  case round =>
    obtain ⟨k, j, hk, HJ, rfl, hown, hbel⟩ := hrel
    by_cases hlt : j < n
    · have hj3 : j + 3 < n := by have := HJ.out; have := Hm.out; omega
      have Hl2 := Hl.out
      obtain ⟨x0, hx0⟩ : ∃ x, bs[j]? = some x := ⟨bs[j]'(by omega), List.getElem?_eq_getElem (by omega)⟩
      obtain ⟨x1, hx1⟩ : ∃ x, bs[j + 1]? = some x := ⟨bs[j + 1]'(by omega), List.getElem?_eq_getElem (by omega)⟩
      obtain ⟨x2, hx2⟩ : ∃ x, bs[j + 2]? = some x := ⟨bs[j + 2]'(by omega), List.getElem?_eq_getElem (by omega)⟩
      obtain ⟨x3, hx3⟩ : ∃ x, bs[j + 3]? = some x := ⟨bs[j + 3]'(by omega), List.getElem?_eq_getElem (by omega)⟩
      have c0 := (hbel.cell (p := ⟨b, off + j, none⟩) hb).trans (hc _ _ hx0)
      have c1 := (hbel.cell (p := ⟨b, off + (j + 1), none⟩) hb).trans (hc _ _ hx1)
      have c2 := (hbel.cell (p := ⟨b, off + (j + 2), none⟩) hb).trans (hc _ _ hx2)
      have c3 := (hbel.cell (p := ⟨b, off + (j + 3), none⟩) hb).trans (hc _ _ hx3)
      have y0 : x0.toNat < 256 := UInt8.toNat_lt x0
      have y1 : x1.toNat < 256 := UInt8.toNat_lt x1
      have y2 : x2.toNat < 256 := UInt8.toNat_lt x2
      have y3 : x3.toNat < 256 := UInt8.toNat_lt x3
      have HX0 := hid hx0
      have HX1 := hid hx1
      have HX2 := hid hx2
      have HX3 := hid hx3
      clear hx0 hx1 hx2 hx3 hc Hl2
      have e4 : bits .or .u32 (bits .or .u32 (bits .or .u32 ((x0.toNat : Int) * 16777216) ((x1.toNat : Int) * 65536)) ((x2.toNat : Int) * 256)) (x3.toNat : Int) = be4 x0 x1 x2 x3 := word32 _ _ _ _ (by omega) (by omega) (by omega) (by omega) (by omega) (by omega) (by omega) (by omega)
      have HB : Hid (0 ≤ be4 x0 x1 x2 x3 ∧ be4 x0 x1 x2 x3 < 4294967296) := by unfold Hid be4; omega
      have HE := hid (entAt_eq HJ.out HX0.out HX1.out HX2.out HX3.out)
      go_wp2_with fail
      go_quiet (fail)
      generalize be4 x0 x1 x2 x3 = xx at *
      go_wp2_with (first
        | (go_at_call 16; (with_reducible refine (unpack_any _ HB.out.1 HB.out.2 _).mono ?_); rintro e' w3 ⟨rfl, hb3⟩; have hown3 := own_below (w := wr.drewN nq) hown hb3; generalize unw xx = ee at *)
        | (at_builtin; refine wpList_append_own _ rfl _ _ 22 rfl w.heap.size 38 i0 (.agg #[.int .i64 0, .int .i64 0, .int .i64 0, .bool false]) 4 32 Try.underlying22 Hi.out Hz0.out Hz1.out Hz2.out rfl (by decide) _ _ _ rfl (hown3.alloc _) ⟨w3.heap.size, 0, none⟩ 1 1 (flat [ee]) rfl rfl (new_row (ent_row ee)) (flat_one _) (by unfold maxLen; have := HJ.out; omega) (by have := HJ.out; omega) (by have h1 := hbel.size; have h2 := hb3.size; simp at h2 ⊢; omega) ?_; intro v' w4 hown4 hg4 _; have hbel4 := below_round3 (nq := nq) rfl hbel hb3 hown hg4; clear hg4))
      go_roundw
      case rel => exact ⟨k + 1, j + 4, by omega, by have := HJ.out; unfold Hid; omega, by go_num, by rw [flat_step HE.out]; exact hown4, hbel4⟩
      case measure => simp [intOf]; omega
    · obtain rfl : j = n := by omega
      obtain rfl : k = m := by have := HJ.out; have := Hm.out; omega
      obtain ⟨A, cap, rfl, hre⟩ := own_ent hown
      have HS := hid (getS_at Hl.out Hm.out hm)
      have HA := hid (isStack_all A k cap _ wr hre)
      cases hq : isStk (entsOf bs k) with
      | true =>
        rw [hq, if_pos rfl] at HS
        rw [hq] at HA
        go_wp2_with (go_at_call 14; (with_reducible refine HA.out.mono ?_); rintro e' w3 ⟨rfl, hb3⟩)
        go_ret2
        exact .inl ⟨_, HS.out, _, rfl, by rw [entsOf_len]; exact own_below hown hb3, hbel.trans (hb3.mono hbel.size)⟩
      | false =>
        rw [hq, if_neg (by simp)] at HS
        rw [hq] at HA
        go_wp2_with (go_at_call 14; (with_reducible refine HA.out.mono ?_); rintro e' w3 ⟨rfl, hb3⟩)
        go_ret2
        exact .inr ⟨HS.out, rfl, hbel.trans (hb3.mono hbel.size)⟩
end Go.Proofs.Ytihbpggoieieoaa
