/- Items written and read back; what Put, Get, Links answer, in one form; the examples. -/
import Derived.Test.YtddddfcalknmlaaTlE
namespace Go.Proofs.Ytddddfcalknmlaa
open Go.RowKit
set_option maxHeartbeats 3200000
set_option maxRecDepth 100000
theorem num2_len {n : Nat} (h : n ≤ 65535) : num2 (byt ((n : Int) / 256)) (byt (n : Int)) = n := by
  have h1 := byt_val ((n : Int) / 256)
  have h2 := byt_val (n : Int)
  unfold num2
  omega
theorem byt_typ {x : Int} (h : 0 ≤ x ∧ x ≤ 255) : ((byt x).toNat : Int) = x := by rw [byt_val]; omega
theorem getI_bytes {e : Itm} (ht : 0 ≤ e.typ ∧ e.typ ≤ 255) (hl : e.data.length ≤ 65535) (r : List UInt8) : getI (e.bytes ++ r) = (getI r).map (fun l => e :: l) := by
  have h : e.bytes ++ r = byt e.typ :: byt ((e.data.length : Int) / 256) :: byt (e.data.length : Int) :: (e.data ++ r) := by simp [Itm.bytes]
  rw [h, getI_step (by rw [num2_len hl, List.length_append]; omega), num2_len hl, byt_typ ht, List.drop_left, List.take_left]
theorem putI_cons (e : Itm) (l : List Itm) : putI (e :: l) = e.bytes ++ putI l := by simp [putI]
theorem getI_put {l : List Itm} (ht : typesOk l = true) (hl : lensOk l = true) : getI (putI l) = some l := by
  induction l with
  | nil => exact getI_nil
  | cons e r ih =>
    simp only [typesOk, lensOk, Bool.and_eq_true, decide_eq_true_eq] at ht hl
    rw [putI_cons, getI_bytes ht.1 hl.1, ih ht.2 hl.2]; rfl
theorem bytes_len (e : Itm) : e.bytes.length = 3 + e.data.length := by simp [Itm.bytes]; omega
/-- A beginning of an item's bytes is none. -/
theorem getI_part {e : Itm} (hl : e.data.length ≤ 65535) {k : Nat} (h0 : 0 < k) (h1 : k < e.bytes.length) (r : List UInt8) : getI ((e.bytes ++ r).take k) = none := by
  have hb := bytes_len e
  by_cases h3 : k < 3
  · refine getI_short ?_ ?_ <;> rw [List.length_take, List.length_append] <;> omega
  · obtain ⟨j, rfl⟩ : ∃ j, k = j + 3 := ⟨k - 3, by omega⟩
    have h : (e.bytes ++ r).take (j + 3) = byt e.typ :: byt ((e.data.length : Int) / 256) :: byt (e.data.length : Int) :: (e.data ++ r).take j := by simp [Itm.bytes]
    rw [h, getI_cut (by rw [num2_len hl, List.length_take]; omega)]
theorem getI_torn {l : List Itm} (ht : typesOk l = true) (hl : lensOk l = true) (k : Nat) (hk : k ≤ (putI l).length) :
    (∃ i, i ≤ l.length ∧ k = (putI (l.take i)).length ∧ getI ((putI l).take k) = some (l.take i)) ∨ ((∀ i, i ≤ l.length → k ≠ (putI (l.take i)).length) ∧ getI ((putI l).take k) = none) := by
  induction l generalizing k with
  | nil =>
    obtain rfl : k = 0 := by simpa [putI] using hk
    exact .inl ⟨0, by simp, by simp [putI], by simp [getI_nil]⟩
  | cons e r ih =>
    simp only [typesOk, lensOk, Bool.and_eq_true, decide_eq_true_eq] at ht hl
    rw [putI_cons, List.length_append] at hk
    rcases Nat.eq_zero_or_pos k with h0 | h0
    · subst h0
      exact .inl ⟨0, by simp, by simp [putI], by simp [getI_nil]⟩
    · by_cases h1 : k < e.bytes.length
      · refine .inr ⟨fun i hi => ?_, by rw [putI_cons]; exact getI_part hl.1 h0 h1 _⟩
        cases i with
        | zero => simp [putI]; omega
        | succ i => rw [List.take_succ_cons, putI_cons, List.length_append]; omega
      · have hcut : (putI (e :: r)).take k = e.bytes ++ (putI r).take (k - e.bytes.length) := by
          rw [putI_cons, List.take_append, List.take_of_length_le (by omega)]
        rcases ih ht.2 hl.2 (k - e.bytes.length) (by omega) with ⟨i, hi, hki, hg⟩ | ⟨hno, hg⟩
        · exact .inl ⟨i + 1, by simp; omega, by rw [List.take_succ_cons, putI_cons, List.length_append]; omega, by rw [hcut, getI_bytes ht.1 hl.1, hg]; simp⟩
        · refine .inr ⟨fun i hi => ?_, by rw [hcut, getI_bytes ht.1 hl.1, hg]; rfl⟩
          cases i with
          | zero => simp [putI]; omega
          | succ i =>
            rw [List.take_succ_cons, putI_cons, List.length_append]
            have := hno i (by simp at hi; omega)
            omega
def outP (l : List Itm) : List UInt8 := if typesOk l = true ∧ lensOk l = true then putI l else []
def outG (bs : List UInt8) : List Itm := (getI bs).getD []
def outH (bs : List UInt8) : Int := if (getI bs).isSome = true then 0 else 2
def outL (bs : List UInt8) : List (Int × Int) := (repI bs).getD []
def outJ (bs : List UInt8) : Int := if (repI bs).isSome = true then 0 else 2
theorem putI_out {f : FuncId} {l : List Itm} {v : Value} {w : World} (hc : Calls Try.prog f #[v] w (PutIAns l w)) :
    Calls Try.prog f #[v] w fun e w' => ∃ A c, e = .returned (.tuple #[.slice A (outP l).length c, .int .i64 (chk l)]) ∧ RByt w' w'.heap.size A (outP l).length (outP l) ∧ (outP l).length ≤ c ∧ Below w.heap.size w w' := by
  refine hc.mono fun e w' ha => ?_
  rcases ha with ⟨h1, h2, v', he, ho, hb⟩ | ⟨h1, h2, he, hb⟩ | ⟨h1, he, hb⟩
  · have hl : outP l = putI l := if_pos ⟨h1, h2⟩
    rw [hl]
    obtain ⟨A, c, rfl, hc, hr⟩ := own_byt_cap ho
    exact ⟨A, c, by rw [he]; simp [chk, h1, h2], hr, hc, hb⟩
  · have hl : outP l = [] := if_neg (by rw [h2]; simp)
    rw [hl]
    exact ⟨none, 0, by rw [he]; simp [chk, h1, h2], rbyt_nil _ _ _, Nat.zero_le _, hb⟩
  · have hl : outP l = [] := if_neg (by rw [h1]; simp)
    rw [hl]
    exact ⟨none, 0, by rw [he]; simp [chk, h1], rbyt_nil _ _ _, Nat.zero_le _, hb⟩
theorem getI_out {f : FuncId} {bs : List UInt8} {v : Value} {w : World} (hc : Calls Try.prog f #[v] w (GetIAns bs w)) :
    Calls Try.prog f #[v] w fun e w' => ∃ A c, e = .returned (.tuple #[.slice A (outG bs).length c, .int .i64 (outH bs)]) ∧ RItm w' w'.heap.size A (outG bs).length (outG bs) ∧ Below w.heap.size w w' := by
  refine hc.mono fun e w' ha => ?_
  rcases ha with ⟨l, h, v', xs, he, ho, hi, hb⟩ | ⟨h, he, hb⟩
  · have hl : outG bs = l := by unfold outG; rw [h]; rfl
    rw [hl]
    obtain ⟨A, c, rfl, hr, _⟩ := own_itm ho hi
    exact ⟨A, c, by rw [he]; simp [outH, h], hr, hb⟩
  · have hl : outG bs = [] := by unfold outG; rw [h]; rfl
    rw [hl]
    exact ⟨none, 0, by rw [he]; simp [outH, h], ⟨rfl, fun h => by simp at h⟩, hb⟩
theorem links_out {f : FuncId} {bs : List UInt8} {v : Value} {w : World} (hc : Calls Try.prog f #[v] w (RepAns bs w)) :
    Calls Try.prog f #[v] w fun e w' => ∃ A c, e = .returned (.tuple #[.slice A (outL bs).length c, .int .i64 (outJ bs)]) ∧ RPr w' w'.heap.size A (outL bs).length (outL bs) ∧ Below w.heap.size w w' := by
  refine hc.mono fun e w' ha => ?_
  rcases ha with ⟨l, h, v', he, ho, hb⟩ | ⟨h, he, hb⟩
  · have hl : outL bs = l := by unfold outL; rw [h]; rfl
    rw [hl]
    obtain ⟨A, c, rfl, hr⟩ := own_pairs ho
    exact ⟨A, c, by rw [he]; simp [outJ, h], hr, hb⟩
  · have hl : outL bs = [] := by unfold outL; rw [h]; rfl
    rw [hl]
    exact ⟨none, 0, by rw [he]; simp [outJ, h], ⟨rfl, fun h => by simp at h⟩, hb⟩
/-- Items just made read as items. -/
def OIt (w : World) (xs : List Value) (l : List Itm) : Prop :=
  ∀ (i : Nat) (e : Itm), l[i]? = some e → xs[i * 2]? = some (.int .i64 e.typ) ∧ ∃ D c, xs[i * 2 + 1]? = some (.slice D e.data.length c) ∧ RByt w w.heap.size D e.data.length e.data ∧ (D = none → e.data.length = 0 ∧ c = 0)
theorem OIt.nil (w : World) : OIt w [] [] := fun i e h => by simp at h
theorem OIt.cons {w : World} {xs : List Value} {l : List Itm} {e : Itm} {D : Option Addr} {c : Nat} (h : OIt w xs l) (hr : RByt w w.heap.size D e.data.length e.data) (hD : D = none → e.data.length = 0 ∧ c = 0) :
    OIt w (.int .i64 e.typ :: .slice D e.data.length c :: xs) (e :: l) := by
  intro i e' he
  cases i with
  | zero => simp at he; subst he; exact ⟨rfl, D, c, rfl, hr, hD⟩
  | succ i =>
    rw [show (i + 1) * 2 = i * 2 + 1 + 1 by omega]
    exact h i e' (by simpa using he)
theorem new_itms {w : World} {xs : List Value} {l : List Itm} {cs : Array Value} (h : OIt w xs l) (hx : cs = xs.toArray) : RItm (w.alloc (.cells cs 26)) (w.alloc (.cells cs 26)).heap.size (some ⟨w.heap.size, 0, none⟩) l.length l := by
  refine ⟨rfl, fun _ => ⟨_, _, rfl, by simp, fun i e he => ?_⟩⟩
  obtain ⟨h1, D, c, h2, h3, h4⟩ := h i e he
  have hc := new_row (w := w) (t := 26) hx
  have k1 := hc _ _ h1
  have k2 := hc _ _ h2
  rw [Go.WideShapes.add_plain] at k1 k2
  exact ⟨k1, D, c, by rw [Nat.add_assoc]; exact k2, (h3.below ((Below.refl _ _).alloc (Nat.le_refl _) _)).more (by simp), h4⟩
theorem new_byt {w : World} {l : List UInt8} {cs : Array Value} (h : cs = (bcells l).toArray) : RByt (w.alloc (.cells cs 5)) (w.alloc (.cells cs 5)).heap.size (some ⟨w.heap.size, 0, none⟩) l.length l := by
  refine ⟨rfl, fun _ => ⟨_, _, rfl, by simp, fun i x hx => ?_⟩⟩
  have := new_row (w := w) (t := 5) h i (.int .u8 (x.toNat : Int)) (by simp [bcells, hx])
  rwa [Go.WideShapes.add_plain] at this
end Go.Proofs.Ytddddfcalknmlaa
