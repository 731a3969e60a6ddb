/- What the laws ask of package sound; Few. -/
import Derived.Test.YthoblabimkfjpaaSoC
import Derived.Test.YthoblabimkfjpaaWgD
import Derived.Test.YthoblabimkfjpaaSoH
namespace Go.Proofs.Ythoblabimkfjpaa
open Go.RowKit
set_option maxHeartbeats 6400000
set_option maxRecDepth 100000
structure SoundSpec (fCheck fAt : Nat) : Prop where
  check : ∀ (nd : Int) (A : Option Addr) (n c : Nat) (l : List Lnk) (A2 : Option Addr) (n2 c2 : Nat) (qs : List (Rul × WSl)) (w : World), GArg w nd A n c l → RRul w A2 n2 c2 qs → n2 ≤ 30 → (∀ q ∈ qs, RRng q.1) → (∀ q ∈ qs, q.1.name.length ≤ 100) → (∀ q ∈ qs, q.2.nv ≤ 100 ∧ q.2.nn ≤ 100 ∧ q.2.nl ≤ 100 ∧ q.2.nc ≤ 100) →
    Calls Try.prog fCheck #[.agg #[.int .i64 nd, .slice A n c], .slice A2 n2 c2] w fun e w' => e = .returned (.tuple #[.int .i64 (checkRS nd l (qs.map (·.1))).1, .int .i64 (checkRS nd l (qs.map (·.1))).2]) ∧ Below w.heap.size w w'
  ats : ∀ (A : Option Addr) (n c : Nat) (qs : List (Rul × WSl)) (node : Int) (w : World), RRul w A n c qs → n ≤ 30 → (∀ q ∈ qs, RRng q.1) → (∀ q ∈ qs, q.1.name.length ≤ 100) → (∀ q ∈ qs, q.2.nv ≤ 100 ∧ q.2.nn ≤ 100 ∧ q.2.nl ≤ 100 ∧ q.2.nc ≤ 100) → I64 node →
    Calls Try.prog fAt #[.slice A n c, .int .i64 node] w fun e w' => ∃ A' c' ps, e = .returned (.slice A' ps.length c') ∧ ps.map (·.1) = atS node (qs.map (·.1)) ∧ RRul w' A' ps.length c' ps ∧ Below w.heap.size w w'
theorem num14_any (x : Int) (w : World) : Calls Try.prog 18 #[.int .i64 x] w fun e w' => e = .returned (.int .i64 x) ∧ w = w' := by
  go_enter Try.func18, Try.ntmps18
  go_wp2_with fail
  go_ret
  exact ⟨rfl, rfl⟩
def fewB (y : WSl) : Bool := decide (y.nv ≤ 20) && decide (y.nn ≤ 60) && decide (y.nl ≤ 60) && decide (y.nc ≤ 60)
theorem few_any (x : Wnt) (y : WSl) (w : World) : Calls Try.prog 25 #[.agg #[.int .i64 x.frm, .int .i64 x.too, .int .i64 x.bnd, .slice y.av y.nv y.cv, .slice y.an y.nn y.cn, .slice y.al y.nl y.cl, .slice y.ac y.nc y.cc]] w fun e w' => e = .returned (.bool (fewB y)) ∧ Below w.heap.size w w' := by
  have b1 : Below w.heap.size w (w.alloc (.cells #[.int .i64 x.frm, .int .i64 x.too, .int .i64 x.bnd, .slice y.av y.nv y.cv, .slice y.an y.nn y.cn, .slice y.al y.nl y.cl, .slice y.ac y.nc y.cc] 51)) := Below.alloc (Below.refl _ _) (Nat.le_refl _) _
  have Q : fewB y = (decide (y.nv ≤ 20) && decide (y.nn ≤ 60) && decide (y.nl ≤ 60) && decide (y.nc ≤ 60)) := rfl
  rw [Q]
  by_cases h1 : y.nv ≤ 20
  · have t1 : decide ((y.nv : Int) ≤ 20) = true := by simp; omega
    by_cases h2 : y.nn ≤ 60
    · have t2 : decide ((y.nn : Int) ≤ 60) = true := by simp; omega
      by_cases h3 : y.nl ≤ 60
      · have t3 : decide ((y.nl : Int) ≤ 60) = true := by simp; omega
        by_cases h4 : y.nc ≤ 60
        · have t4 : decide ((y.nc : Int) ≤ 60) = true := by simp; omega
          rw [decide_eq_true h1, decide_eq_true h2, decide_eq_true h3, decide_eq_true h4]
          go_enter Try.func25, Try.ntmps25
          go_wp2_with fail
          go_ret
          exact ⟨by first | rfl | simp, b1⟩
        · have t4 : decide ((y.nc : Int) ≤ 60) = false := by simp; omega
          rw [decide_eq_true h1, decide_eq_true h2, decide_eq_true h3, decide_eq_false h4]
          go_enter Try.func25, Try.ntmps25
          go_wp2_with fail
          go_ret
          exact ⟨by first | rfl | simp, b1⟩
      · have t3 : decide ((y.nl : Int) ≤ 60) = false := by simp; omega
        rw [decide_eq_true h1, decide_eq_true h2, decide_eq_false h3]
        go_enter Try.func25, Try.ntmps25
        go_wp2_with fail
        go_ret
        exact ⟨by first | rfl | simp, b1⟩
    · have t2 : decide ((y.nn : Int) ≤ 60) = false := by simp; omega
      rw [decide_eq_true h1, decide_eq_false h2]
      go_enter Try.func25, Try.ntmps25
      go_wp2_with fail
      go_ret
      exact ⟨by first | rfl | simp, b1⟩
  · have t1 : decide ((y.nv : Int) ≤ 20) = false := by simp; omega
    rw [decide_eq_false h1]
    go_enter Try.func25, Try.ntmps25
    go_wp2_with fail
    go_ret
    exact ⟨by first | rfl | simp, b1⟩
def fewR (q : Rul × WSl) : Bool := decide (q.1.name.length ≤ 100) && fewB q.2
theorem few_max {q : Rul × WSl} (h : fewR q = true) : q.1.name.length ≤ 100 ∧ q.2.nv ≤ 20 ∧ q.2.nn ≤ 60 ∧ q.2.nl ≤ 60 ∧ q.2.nc ≤ 60 := by
  unfold fewR fewB at h
  simp only [Bool.and_eq_true, decide_eq_true_eq] at h
  exact ⟨h.1, h.2.1.1.1, h.2.1.1.2, h.2.1.2, h.2.2⟩
theorem all_snoc {qs : List (Rul × WSl)} {i : Nat} {q : Rul × WSl} (h : (qs.take i).all fewR = true) (hq : qs[i]? = some q) (hf : fewR q = true) : (qs.take (i + 1)).all fewR = true := by
  rw [List.take_add_one, hq, List.all_append, h]
  simp [hf]
theorem few14_any (A : Option Addr) (n c : Nat) (qs : List (Rul × WSl)) (w : World) (h : RRul w A n c qs) (hn : n ≤ maxLen) (hnm : ∀ q ∈ qs, q.1.name.length ≤ 9223372036854775807) :
    Calls Try.prog 15 #[.slice A n c] w fun e w' => e = .returned (.bool (qs.all fewR && decide (n ≤ 30))) ∧ Below w.heap.size w w' := by
  have HH := hid h
  have Hlen := hid h.len
  have Hnm := hid hnm
  have hn2 : n ≤ 9223372036854775807 := by unfold maxLen at hn; omega
  have HF := hid (fun x y W => few_any x y W)
  clear h hn hnm
  go_enter Try.func15, Try.ntmps15
  go_wp2_with fail
  go_loopw [3] (fun iv wr => ∃ i : Nat, i ≤ n ∧ iv = .int .i64 i ∧ Hid ((qs.take i).all fewR = true) ∧ Hid (Below w.heap.size w wr)) (fun iv _ => n - (intOf iv).toNat)
  case atStart => exact ⟨0, Nat.zero_le _, rfl, rfl, Below.refl _ _⟩
  case round =>
    obtain ⟨i, hi, rfl, HAll, HB⟩ := hrel
    by_cases hlt : i < n
    · obtain ⟨⟨r, y⟩, hq⟩ : ∃ q, qs[i]? = some q := ⟨qs[i]'(by rw [Hlen.out]; exact hlt), List.getElem?_eq_getElem _⟩
      have hm : (r, y) ∈ qs := List.mem_of_getElem? hq
      have hRr := HH.out.on HB.out
      obtain ⟨b, off, rfl, hbb, hc⟩ := hRr.row (by omega)
      have kl : (i : Int) < (n : Int) := by omega
      have z0 : wr.cell? ⟨b, off + i * 17, none⟩ = some (.string (txt r.name)) := hc i _ 0 _ hq rfl
      have z9 : wr.cell? ⟨b, off + i * 17 + 9, none⟩ = some (.int .i64 r.x.frm) := hc i _ 9 _ hq rfl
      have z10 : wr.cell? ⟨b, off + i * 17 + 10, none⟩ = some (.int .i64 r.x.too) := hc i _ 10 _ hq rfl
      have z11 : wr.cell? ⟨b, off + i * 17 + 11, none⟩ = some (.int .i64 r.x.bnd) := hc i _ 11 _ hq rfl
      have z12 : wr.cell? ⟨b, off + i * 17 + 12, none⟩ = some (.slice y.av y.nv y.cv) := hc i _ 12 _ hq rfl
      have z13 : wr.cell? ⟨b, off + i * 17 + 13, none⟩ = some (.slice y.an y.nn y.cn) := hc i _ 13 _ hq rfl
      have z14 : wr.cell? ⟨b, off + i * 17 + 14, none⟩ = some (.slice y.al y.nl y.cl) := hc i _ 14 _ hq rfl
      have z15 : wr.cell? ⟨b, off + i * 17 + 15, none⟩ = some (.slice y.ac y.nc y.cc) := hc i _ 15 _ hq rfl
      have hsz : (txt r.name).size = r.name.length := txt_size r.name
      have hn3 := Hnm.out _ hm
      simp only at hn3
      have Hq := hid hq
      have Hm := hid hm
      clear hRr hc hq hm
      by_cases h1 : r.name.length ≤ 100
      · have t1 : decide ((100 : Int) < (r.name.length : Int)) = false := by simp; omega
        by_cases h2 : fewB y = true
        · have H3 := hid (all_snoc HAll.out Hq.out (by unfold fewR; simp [h1, h2]))
          have HF2 : Hid (∀ W : World, Calls Try.prog 25 #[.agg #[.int .i64 r.x.frm, .int .i64 r.x.too, .int .i64 r.x.bnd, .slice y.av y.nv y.cv, .slice y.an y.nn y.cn, .slice y.al y.nl y.cl, .slice y.ac y.nc y.cc]] W fun e w' => e = .returned (.bool true) ∧ Below W.heap.size W w') := by
            intro W
            have := HF.out r.x y W
            rw [h2] at this
            exact this
          clear h2
          go_wp2_with (first | (go_at_call 25; (with_reducible refine (HF2.out _).mono ?_); rintro e' w1 ⟨rfl, hb1⟩))
          go_roundw
          case rel => exact ⟨i + 1, by omega, by go_num, H3, HB.out.trans (hb1.mono HB.out.size)⟩
          case measure => simp [intOf]; omega
        · have hfa : Hid (qs.all fewR = false) := by
            rw [Bool.not_eq_true] at h2
            exact List.all_eq_false.2 ⟨(r, y), Hm.out, by unfold fewR; simp [h2]⟩
          have HF2 : Hid (∀ W : World, Calls Try.prog 25 #[.agg #[.int .i64 r.x.frm, .int .i64 r.x.too, .int .i64 r.x.bnd, .slice y.av y.nv y.cv, .slice y.an y.nn y.cn, .slice y.al y.nl y.cl, .slice y.ac y.nc y.cc]] W fun e w' => e = .returned (.bool false) ∧ Below W.heap.size W w') := by
            intro W
            have := HF.out r.x y W
            rw [Bool.not_eq_true] at h2
            rw [h2] at this
            exact this
          clear h2
          go_wp2_with (first | (go_at_call 25; (with_reducible refine (HF2.out _).mono ?_); rintro e' w1 ⟨rfl, hb1⟩))
          go_ret
          exact ⟨by rw [hfa.out]; rfl, HB.out.trans (hb1.mono HB.out.size)⟩
      · have t1 : decide ((100 : Int) < (r.name.length : Int)) = true := by simp; omega
        have hfa : Hid (qs.all fewR = false) := List.all_eq_false.2 ⟨(r, y), Hm.out, by unfold fewR; simp; omega⟩
        go_wp2_with fail
        go_ret
        exact ⟨by rw [hfa.out]; rfl, HB.out⟩
    · obtain rfl : i = n := by omega
      have HQ : Hid (qs.all fewR = true) := by
        have := HAll.out
        rwa [List.take_of_length_le (by rw [Hlen.out]; omega)] at this
      by_cases h3 : i ≤ 30
      · have t3 : decide ((i : Int) ≤ 30) = true := by simp; omega
        go_wp2_with fail
        go_ret
        exact ⟨by rw [HQ.out, decide_eq_true h3]; rfl, HB.out⟩
      · have t3 : decide ((i : Int) ≤ 30) = false := by simp; omega
        go_wp2_with fail
        go_ret
        exact ⟨by rw [HQ.out, decide_eq_false h3]; rfl, HB.out⟩
end Go.Proofs.Ythoblabimkfjpaa
