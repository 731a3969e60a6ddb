/- WordsWrong. -/
import Derived.Test.YtpnabmndnaiioaaWoD
namespace Go.Proofs.Ytpnabmndnaiioaa
open Go.RowKit
set_option maxHeartbeats 12800000
set_option maxRecDepth 100000
/-- Which bytes begin something. -/
def okC (c : UInt8) : Bool := isLt c || isDg c || isBl c || c == 35 || c == 59
theorem scL_one (c : UInt8) (i : Nat) : (scL i [c]).2 = if okC c then none else some i := by
  unfold scL okC
  show (scan 1 i [c]).2 = _
  unfold scan
  by_cases h1 : isBl c = true
  · rw [if_pos h1, scan_nil]; simp [h1]
  · rw [if_neg h1]
    by_cases h2 : (c == 35) = true
    · rw [if_pos h2]
      have hr : isRm c = true := by rw [eq_of_beq h2]; rfl
      rw [List.dropWhile_cons_of_pos hr, List.dropWhile_nil, scan_nil]; simp [h2]
    · rw [if_neg h2]
      by_cases h3 : isLt c = true
      · rw [if_pos h3]
        have hr : isWd c = true := by unfold isWd; rw [h3]; rfl
        rw [List.dropWhile_cons_of_pos hr, List.dropWhile_nil, scan_nil]; simp [h3]
      · rw [if_neg h3]
        by_cases h4 : isDg c = true
        · rw [if_pos h4]
          have hr : isNm c = true := by unfold isNm; rw [h4]; rfl
          rw [List.dropWhile_cons_of_pos hr, List.dropWhile_nil, scan_nil]; simp [h4]
        · rw [if_neg h4]
          by_cases h5 : (c == 59) = true
          · rw [if_pos h5, scan_nil]; simp [h5]
          · rw [if_neg h5]
            have e1 : isBl c = false := by simpa using h1
            have e2 : (c == 35) = false := by simpa using h2
            have e3 : isLt c = false := by simpa using h3
            have e4 : isDg c = false := by simpa using h4
            have e5 : (c == 59) = false := by simpa using h5
            rw [e1, e2, e3, e4, e5]; rfl
theorem scL_sign (i : Nat) (r : List UInt8) : (scL i (59 :: r)).2 = (scL (i + 1) r).2 := by
  show (scan (r.length + 1) i (59 :: r)).2 = (scan r.length (i + 1) r).2
  conv => lhs; unfold scan
  rw [if_neg (by decide), if_neg (by decide), if_neg (by decide), if_neg (by decide), if_pos (by decide)]
theorem scL_signs (c : UInt8) : ∀ (n i : Nat), (scL i (List.replicate n 59 ++ [c])).2 = if okC c then none else some (i + n)
  | 0, i => scL_one c i
  | n + 1, i => by
    rw [List.replicate_succ, List.cons_append, scL_sign, scL_signs c n (i + 1), show i + 1 + n = i + (n + 1) by omega]
theorem split_signs (c : UInt8) (n : Nat) (hn : n ≤ 50) : (okC c = true → ∃ l, splitS (List.replicate n 59 ++ [c]) = (l, -1, 0)) ∧ (okC c = false → splitS (List.replicate n 59 ++ [c]) = ([], (n : Int), 3)) := by
  have h := scL_signs c n 0
  have hl : (List.replicate n (59 : UInt8) ++ [c]).length ≤ 10000 := by simp; omega
  have hs : scanAt (List.replicate n 59 ++ [c]) 0 = scL 0 (List.replicate n 59 ++ [c]) := by unfold scanAt; rw [List.drop_zero]; rfl
  refine ⟨fun hk => ?_, fun hk => ?_⟩
  · rw [hk] at h
    exact ⟨_, split_ok hl (by rw [hs]; exact Prod.ext rfl h)⟩
  · rw [hk] at h
    exact split_bad (l := (scL 0 (List.replicate n 59 ++ [c])).1) hl (by rw [hs]; exact Prod.ext rfl (by simpa using h))
theorem scL_blanks : ∀ (n i : Nat), scL i (List.replicate n 32) = ([], none)
  | 0, i => scan_nil _ _
  | n + 1, i => by rw [List.replicate_succ, scL_blank (by decide)]; exact scL_blanks n (i + 1)
theorem split_blanks (n : Nat) : splitS (List.replicate n 32) = if 10000 < n then ([], 0, 6) else ([], -1, 0) := by
  by_cases h : 10000 < n
  · rw [if_pos h]; unfold splitS; rw [if_pos (by simpa using h)]
  · rw [if_neg h]
    refine split_ok (by simp; omega) ?_
    unfold scanAt
    rw [List.drop_zero]
    exact scL_blanks n 0
theorem conv_txt {w : World} {B n c : Nat} {A : Option Addr} {bs : List UInt8} (h : RByt w B A n bs) : (convert 34 9 (.slice A n c)).run Try.prog w = .ok (.string (txt bs)) w := by
  have hl := h.1
  rcases Nat.eq_zero_or_pos n with h0 | h0
  · subst h0
    obtain rfl := List.length_eq_zero_iff.1 hl
    rw [run_convert_bytes_string w 34 9 5 A 0 c Try.underlying34 Try.underlying5 Try.underlying9]
    cases A <;> simp [Conv.bytesToString, loadCells] <;> rfl
  · obtain ⟨b, off, rfl, _, hc⟩ := h.2 h0
    subst hl
    refine run_convert_bytes_back w 34 9 5 _ c bs Try.underlying34 Try.underlying5 Try.underlying9 (fun j hj => ?_)
    rw [Go.WideShapes.add_plain]
    exact hc j _ (List.getElem?_eq_getElem hj)
/-- Block G is a row of N bytes: H. -/
def URow (w : World) (G N : Nat) (H : Nat → UInt8) : Prop := ∃ cs : Array Value, w.heap[G]? = some (.cells cs 5 (0, 0)) ∧ cs.size = N ∧ ∀ e, e < N → cs[e]? = some (.int .u8 ((H e).toNat : Int))
theorem URow.lt {w : World} {G N : Nat} {H : Nat → UInt8} (h : URow w G N H) : G < w.heap.size := by
  obtain ⟨cs, hb, _⟩ := h
  exact (Array.getElem?_eq_some_iff.1 hb).1
theorem URow.cell {w : World} {G N e : Nat} {H : Nat → UInt8} (h : URow w G N H) (he : e < N) : w.cell? ⟨G, e, none⟩ = some (.int .u8 ((H e).toNat : Int)) := by
  obtain ⟨cs, hb, _, hc⟩ := h
  rw [cell_of_row _ _ _ _ _ _ hb]
  exact hc e he
theorem URow.frozen {w : World} {G N : Nat} {H : Nat → UInt8} (h : URow w G N H) (e : Nat) : w.frozen? ⟨G, e, none⟩ = false := by
  obtain ⟨cs, hb, _⟩ := h
  exact frozen_of_row _ _ _ _ _ hb
theorem URow.set {w : World} {G N e : Nat} {H : Nat → UInt8} (h : URow w G N H) (b : UInt8) : URow (w.setCell ⟨G, e, none⟩ (.int .u8 (b.toNat : Int))) G N (fun j => if j = e then b else H j) := by
  obtain ⟨cs, h1, h2, h3⟩ := h
  refine ⟨_, heap_setCell_same w G e cs _ _ h1, by simpa using h2, fun j hj => ?_⟩
  rw [Array.getElem?_setIfInBounds]
  by_cases hje : e = j
  · subst hje; simp [h2, hj]
  · rw [if_neg hje, h3 j hj]
    show some (Value.int .u8 ((H j).toNat : Int)) = some (Value.int .u8 (((if j = e then b else H j)).toNat : Int))
    rw [if_neg (fun h => hje h.symm)]
theorem URow.congr {w : World} {G N : Nat} {H H' : Nat → UInt8} (h : URow w G N H) (he : ∀ e, e < N → H' e = H e) : URow w G N H' := by
  obtain ⟨cs, h1, h2, h3⟩ := h
  exact ⟨cs, h1, h2, fun e hl => by rw [h3 e hl, he e hl]⟩
theorem URow.made {w : World} {base G N : Nat} (h : w.ownsRow base 5 1 (.slice (some ⟨G, 0, none⟩) N N) N (madeCells (Value.int .u8 0).cells (N * 1)).toList) : URow w G N (fun _ => 0) := by
  rcases h.2 with ⟨h1, _⟩ | ⟨g, cap, cur, h1, _, hg, _, _, h4, h5⟩
  · cases h1
  · simp only [Value.slice.injEq, Option.some.injEq, Addr.mk.injEq] at h1
    obtain ⟨⟨rfl, _⟩, _, rfl⟩ := h1
    refine ⟨cur, hg, by omega, fun e he => ?_⟩
    have h6 : cur.toList = List.replicate N (Value.int .u8 0) := by
      rw [List.take_of_length_le (by simp; omega)] at h5
      rw [h5, Nat.mul_one, show (Value.int .u8 0).cells = #[Value.int .u8 0] from rfl, toList_madeCells_one]
    rw [← Array.getElem?_toList, h6]
    simp [he]
theorem URow.toRByt {w : World} {G N : Nat} {H : Nat → UInt8} (h : URow w G N H) (hb : ∀ e, e < N → H e = 32) : RByt w w.heap.size (some ⟨G, 0, none⟩) N (List.replicate N 32) := by
  refine ⟨List.length_replicate, fun _ => ⟨G, 0, rfl, h.lt, fun i x hx => ?_⟩⟩
  have hi : i < N := by
    have := (List.getElem?_eq_some_iff.1 hx).1
    simpa using this
  rw [List.getElem?_replicate, if_pos hi] at hx
  cases hx
  have := h.cell hi
  rw [hb i hi] at this
  simpa using this
end Go.Proofs.Ytpnabmndnaiioaa
