import Derived.Test.YtihbpggoieieoaaP
namespace Go.Proofs.Ytihbpggoieieoaa
open Go.RowKit
set_option maxHeartbeats 1600000
set_option maxRecDepth 100000

theorem word_val1 (e : Ent) (hf : e.fits = true) (hl : e.last = true) : bits .or .i64 (bits .or .i64 (bits .or .i64 (e.lab * 4096) (e.cls * 512)) 256) e.ttl = e.word := by
  simp only [Ent.fits, decide_eq_true_eq] at hf
  obtain ⟨h, h', hb, hb', hc, hc'⟩ := hf
  have := ref4 _ _ _ 1 h h' hb hb' hc hc' (by omega) (by omega)
  rw [Int.one_mul] at this
  rw [this]
  unfold Ent.word
  rw [hl]; simp
theorem word_val0 (e : Ent) (hf : e.fits = true) (hl : e.last = false) : bits .or .i64 (bits .or .i64 (bits .or .i64 (e.lab * 4096) (e.cls * 512)) 0) e.ttl = e.word := by
  simp only [Ent.fits, decide_eq_true_eq] at hf
  obtain ⟨h, h', hb, hb', hc, hc'⟩ := hf
  have := ref4 _ _ _ 0 h h' hb hb' hc hc' (by omega) (by omega)
  rw [Int.zero_mul] at this
  rw [this]
  unfold Ent.word
  rw [hl]; simp
theorem mask255 (x : Int) (h : 0 ≤ x) (h' : x < 4294967296) : bits .and .i64 x 255 = x % 256 := i64_mask 8 (by decide) 255 (by decide) x h (by omega)

/-- What PutEntries answers. -/
def PutAns (l : List Ent) (n B : Nat) (w : World) (e : Ending) (w' : World) : Prop :=
  (okAll l = true ∧ ∃ v, e = .returned (.tuple #[v, .int .i64 0]) ∧ w'.ownsRow B 5 1 v (4 * n) (bcells (putB l)) ∧ Below B w w') ∨
  (okAll l = false ∧ e = .returned (.tuple #[.slice none 0 0, .int .i64 1]) ∧ Below B w w')
theorem below_round2 {w wr w4 : World} {B : Nat} {o1 o2 : Obj} {v : Value} {e : TypeId} {size n : Nat} {xs : List Value} (hB : B = w.heap.size) (h : Below B w wr)
    (hown : wr.ownsRow B e size v n xs) (hg : ((wr.alloc o1).alloc o2).grownBy w4 v.ownBlock) : Below B w w4 := by
  have hs1 := h.size
  exact Below.grown ((h.alloc (by omega) _).alloc (by simp; omega) o2) hg (by simp; omega) (fun k hk => (hown.lt k hk).1)

theorem bad_cases {e : Ent} {k n : Nat} (hlt : k < n) (h : (e.fits && (e.last == decide (k + 1 = n))) = false) :
    decide (e.lab < 0) = true ∨ (decide (e.lab < 0) = false ∧ decide (1048576 ≤ e.lab) = true) ∨ (decide (e.lab < 0) = false ∧ decide (1048576 ≤ e.lab) = false ∧ decide (e.cls < 0) = true) ∨
    (decide (e.lab < 0) = false ∧ decide (1048576 ≤ e.lab) = false ∧ decide (e.cls < 0) = false ∧ decide (7 < e.cls) = true) ∨
    (decide (e.lab < 0) = false ∧ decide (1048576 ≤ e.lab) = false ∧ decide (e.cls < 0) = false ∧ decide (7 < e.cls) = false ∧ decide (e.ttl < 0) = true) ∨
    (decide (e.lab < 0) = false ∧ decide (1048576 ≤ e.lab) = false ∧ decide (e.cls < 0) = false ∧ decide (7 < e.cls) = false ∧ decide (e.ttl < 0) = false ∧ decide (255 < e.ttl) = true) ∨
    (decide (e.lab < 0) = false ∧ decide (1048576 ≤ e.lab) = false ∧ decide (e.cls < 0) = false ∧ decide (7 < e.cls) = false ∧ decide (e.ttl < 0) = false ∧ decide (255 < e.ttl) = false ∧ (!e.last == ((k : Int) == (n : Int) - 1)) = true) := by
  rw [last_test hlt] at h
  by_cases hf : e.fits = true
  · rw [hf, Bool.true_and] at h
    simp only [Ent.fits, decide_eq_true_eq] at hf
    simp only [decide_eq_true_eq, decide_eq_false_iff_not]
    refine .inr (.inr (.inr (.inr (.inr (.inr ⟨by omega, by omega, by omega, by omega, by omega, by omega, ?_⟩)))))
    cases hq : e.last <;> rw [hq] at h <;> simpa using h
  · simp only [Ent.fits, decide_eq_true_eq] at hf
    simp only [decide_eq_true_eq, decide_eq_false_iff_not]
    omega

theorem ref_any (A : Option Addr) (n c : Nat) (l : List Ent) (w : World) (hn : 1 ≤ n) (hm : n ≤ 1000) (hr : REnt w w.heap.size A n l) :
   Calls Try.prog 9 #[.slice A n c] w (PutAns l n w.heap.size w) := by
  obtain ⟨i0, hi, hz0, hz1, hz2⟩ := info_parts Try.info5
  obtain ⟨hl, hc⟩ := hr
  obtain ⟨b, off, rfl, hb, hc⟩ := hc (by omega)
  have Hl := hid hl
  have Hi := hid hi; have Hz0 := hid hz0; have Hz1 := hid hz1; have Hz2 := hid hz2
  clear hi hz0 hz1 hz2 hl
  have t1 : decide ((n : Int) < 1) = false := by simp; omega
  have t2 : decide ((1000 : Int) < n) = false := by simp; omega
  go_enter Try.func9, Try.ntmps9
  go_wp2_with fail
  go_loopw [4, 5] (fun v i wr => ∃ k : Nat, k ≤ n ∧ i = .int .i64 k ∧ wr.ownsRow w.heap.size 5 1 v (4 * k) (bcells (putB (l.take k))) ∧ okAll (l.drop k) = okAll l ∧ Below w.heap.size w wr) (fun _ i _ => n - (intOf i).toNat)
  case atStart => exact ⟨0, Nat.zero_le _, rfl, World.ownsRow_nil _ _ _ _, rfl, Below.refl _ _⟩
  case round =>
    obtain ⟨k, hk, rfl, hown, hok, hbel⟩ := hrel
    by_cases hlt : k < n
    · have Hl2 : l.length = n := Hl.out
      obtain ⟨e, he⟩ : ∃ e, l[k]? = some e := ⟨l[k]'(by omega), List.getElem?_eq_getElem (by omega)⟩
      obtain ⟨c0, c1, c2, c3⟩ := hc k e he
      have Hd := hid (okAll_drop Hl2 he)
      have Hok := hid hok
      have Ht := hid (putB_take he)
      have c0' := (hbel.cell (p := ⟨b, off + k * 4, none⟩) hb).trans c0
      have c1' := (hbel.cell (p := ⟨b, off + k * 4 + 1, none⟩) hb).trans c1
      have c2' := (hbel.cell (p := ⟨b, off + k * 4 + 2, none⟩) hb).trans c2
      have c3' := (hbel.cell (p := ⟨b, off + k * 4 + 3, none⟩) hb).trans c3
      clear c0 c1 c2 c3 he hok Hl2 hc
      by_cases hfit : (e.fits && (e.last == decide (k + 1 = n))) = true
      · rw [Bool.and_eq_true] at hfit
        obtain ⟨hf, hla⟩ := hfit
        rw [last_test hlt] at hla
        have HW := hid (word_range hf)
        have Hfit := hid hf
        have Hw1 := hid (word_val1 e hf)
        have Hw0 := hid (word_val0 e hf)
        obtain ⟨g1, g2⟩ := HW.out
        have m1 := mask255 (e.word / 65536) (by omega) (by omega)
        have m2 := mask255 (e.word / 256) (by omega) (by omega)
        have m3 := mask255 e.word (by omega) (by omega)
        simp only [Ent.fits, decide_eq_true_eq] at hf
        obtain ⟨f1, f2, f3, f4, f5, f6⟩ := hf
        have f1' : decide (e.lab < 0) = false := by simp; omega
        have f2' : decide (1048576 ≤ e.lab) = false := by simp; omega
        have f3' : decide (e.cls < 0) = false := by simp; omega
        have f4' : decide (7 < e.cls) = false := by simp; omega
        have f5' : decide (e.ttl < 0) = false := by simp; omega
        have f6' : decide (255 < e.ttl) = false := by simp; omega
        have hb1 : ∀ o, w.heap.size ≤ (wr.alloc o).heap.size := fun o => by have := hbel.size; simp; omega
        have hb2 : ∀ o p, w.heap.size ≤ ((wr.alloc o).alloc p).heap.size := fun o p => by have := hbel.size; simp; omega
        cases hq : e.last with
        | true =>
          have w1 := Hw1.out hq
          have ht : ((k : Int) == (n : Int) - 1) = true := by rw [hq] at hla; simpa using hla
          clear hla
          go_wp2_with (at_builtin; refine wpList_append_own _ rfl _ _ 23 rfl w.heap.size 5 i0 (.int .u8 0) 1 1 Try.underlying23 Hi.out Hz0.out Hz1.out Hz2.out rfl (by decide) _ _ _ rfl ((hown.alloc _).alloc _) ⟨wr.heap.size + 1, 0, none⟩ 4 4 (bcells e.bytes) rfl rfl (by have := new_row (w := wr.alloc (.cells #[.int .i64 e.lab, .int .i64 e.cls, .int .i64 e.ttl, .bool true] 38)) (t := 5) (bytes_row g1 g2); simpa using this) (bcells_one _) (by unfold maxLen; omega) (by omega) (hb2 _ _) ?_; intro v' w4 hown4 hg4 _; have hbel4 := below_round2 rfl hbel hown hg4; clear hg4)
          go_roundw
          case rel => exact ⟨k + 1, by omega, by go_num, by rw [Ht.out, bcells_app]; exact hown4, by rw [← Hok.out, Hd.out, Hfit.out, last_test hlt, hq, ht]; rfl, hbel4⟩
          case measure => simp [intOf]; omega
        | false =>
          have w1 := Hw0.out hq
          have ht : ((k : Int) == (n : Int) - 1) = false := by rw [hq] at hla; simpa using hla
          clear hla
          go_wp2_with (at_builtin; refine wpList_append_own _ rfl _ _ 23 rfl w.heap.size 5 i0 (.int .u8 0) 1 1 Try.underlying23 Hi.out Hz0.out Hz1.out Hz2.out rfl (by decide) _ _ _ rfl ((hown.alloc _).alloc _) ⟨wr.heap.size + 1, 0, none⟩ 4 4 (bcells e.bytes) rfl rfl (by have := new_row (w := wr.alloc (.cells #[.int .i64 e.lab, .int .i64 e.cls, .int .i64 e.ttl, .bool false] 38)) (t := 5) (bytes_row g1 g2); simpa using this) (bcells_one _) (by unfold maxLen; omega) (by omega) (hb2 _ _) ?_; intro v' w4 hown4 hg4 _; have hbel4 := below_round2 rfl hbel hown hg4; clear hg4)
          go_roundw
          case rel => exact ⟨k + 1, by omega, by go_num, by rw [Ht.out, bcells_app]; exact hown4, by rw [← Hok.out, Hd.out, Hfit.out, last_test hlt, hq, ht]; rfl, hbel4⟩
          case measure => simp [intOf]; omega
      · have hf2 : (e.fits && (e.last == decide (k + 1 = n))) = false := by simpa using hfit
        have HF := hid hf2
        clear hf2 hfit
        have HD := hid (bad_cases hlt HF.out)
        rcases HD.out with h1 | ⟨h1, h2⟩ | ⟨h1, h2, h3⟩ | ⟨h1, h2, h3, h4⟩ | ⟨h1, h2, h3, h4, h5⟩ | ⟨h1, h2, h3, h4, h5, h6⟩ | ⟨h1, h2, h3, h4, h5, h6, h7⟩ <;>
        · clear HD
          go_wp2_with fail
          go_ret2
          exact .inr ⟨by rw [← Hok.out, Hd.out, HF.out]; rfl, rfl, hbel.alloc hbel.size _⟩
    · obtain rfl : k = n := by omega
      go_wp2_with fail
      go_ret2
      exact .inl ⟨by rw [← hok, List.drop_of_length_le (by rw [Hl.out]; omega)]; rfl, _, rfl, by rw [List.take_of_length_le (by rw [Hl.out]; omega)] at hown; exact hown, hbel⟩
end Go.Proofs.Ytihbpggoieieoaa
