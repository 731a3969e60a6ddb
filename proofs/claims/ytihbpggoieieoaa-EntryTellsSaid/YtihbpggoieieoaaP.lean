import Derived.Test.YtihbpggoieieoaaB
import Derived.Test.YtihbpggoieieoaaM
namespace Go.Proofs.Ytihbpggoieieoaa
open Go.RowKit
set_option maxHeartbeats 400000

theorem Try.info5 : (Try.prog.info? 5).map (fun i => (i.zero, i.size, i.bytes)) = some (some (.int .u8 0), 1, 1) := by kernel_rfl
theorem Try.info38 : (Try.prog.info? 38).map (fun i => (i.zero, i.size, i.bytes)) = some (some (.agg #[.int .i64 0, .int .i64 0, .int .i64 0, .bool false]), 4, 32) := by kernel_rfl

theorem pack_any (e : Ent) (hf : e.fits = true) (w : World) :
    Calls Try.prog 15 #[.agg #[.int .i64 e.lab, .int .i64 e.cls, .int .i64 e.ttl, .bool e.last]] w fun e' w' => e' = .returned (.int .u32 e.word) ∧ Below w.heap.size w w' := by
  obtain ⟨a, b, c, l⟩ := e
  simp only [Ent.fits, decide_eq_true_eq] at hf
  obtain ⟨h, h', hb, hb', hc, hc'⟩ := hf
  have J3 := hid (join3 a b c h h' hb hb' hc hc')
  have J4 := hid (join4 a b c h h' hb hb' hc hc')
  cases l
  · go_enter Try.func15, Try.ntmps15
    go_wp2
    go_ret
    exact ⟨ret_int (by rw [J3.out]; simp [Ent.word]), (Below.refl _ _).alloc (Nat.le_refl _) _⟩
  · go_enter Try.func15, Try.ntmps15
    go_wp2
    go_ret
    exact ⟨ret_int (by rw [J3.out, J4.out]; simp [Ent.word]; omega), (Below.refl _ _).alloc (Nat.le_refl _) _⟩

theorem grown_below {w w' : World} (h : w.grownBy w' none) : Below w.heap.size w w' := ⟨h.os, h.tape, h.output, h.size, fun k hk => h.block k hk (by simp)⟩
theorem okAll_fits {l : List Ent} (h : okAll l = true) {k : Nat} {e : Ent} (he : l[k]? = some e) : e.fits = true := by
  induction l generalizing k with
  | nil => simp at he
  | cons a r ih =>
    simp only [okAll, Bool.and_eq_true] at h
    cases k with
    | zero => simp at he; subst he; exact h.1.1
    | succ k => exact ih h.2 (by simpa using he)

theorem word_range {e : Ent} (h : e.fits = true) : 0 ≤ e.word ∧ e.word < 4294967296 := by
  simp only [Ent.fits, decide_eq_true_eq] at h
  unfold Ent.word
  split <;> omega

theorem new_row {w : World} {xs : List Value} {cs : Array Value} {t : TypeId} (h : cs = xs.toArray) : ∀ (j : Nat) (u : Value), xs[j]? = some u → (w.alloc (.cells cs t)).cell? ((⟨w.heap.size, 0, none⟩ : Addr).add j) = some u := by
  intro j u hu
  subst h
  rw [show (⟨w.heap.size, 0, none⟩ : Addr).add j = ⟨w.heap.size, j, none⟩ by simp [Go.WideShapes.add_plain], cell_of_row _ _ _ _ _ _ (heap_alloc_new w _)]
  simpa using hu
theorem bcells_one (l : List UInt8) : ∀ u ∈ bcells l, u.oneCell' = true := by
  intro u hu
  simp only [bcells, List.mem_map] at hu
  obtain ⟨b, _, rfl⟩ := hu
  rfl
theorem bytes_row {e : Ent} (g1 : 0 ≤ e.word) (g2 : e.word < 4294967296) :
    #[Value.int .u8 (e.word / 16777216), Value.int .u8 (e.word / 65536 % 256), Value.int .u8 (e.word / 256 % 256), Value.int .u8 (e.word % 256)] = (bcells e.bytes).toArray := by
  simp only [bcells, Ent.bytes, List.map_cons, List.map_nil, byt_val]
  rw [show e.word / 16777216 % 256 = e.word / 16777216 by omega]
/-- behind a round: a block for the entry, a call, a block for what is appended, the append -/
theorem below_round {w wr w3 w4 : World} {B : Nat} {o1 o2 : Obj} {v : Value} {e : TypeId} {size n : Nat} {xs : List Value} (hB : B = w.heap.size) (h : Below B w wr) (h3 : Below (wr.alloc o1).heap.size (wr.alloc o1) w3)
    (hown : wr.ownsRow B e size v n xs) (hg : (w3.alloc o2).grownBy w4 v.ownBlock) : Below B w w4 := by
  have hs1 := h.size
  have hs3 := h3.size
  have a1 : Below B w (wr.alloc o1) := h.alloc (by omega) _
  have a2 : Below B w w3 := a1.trans (h3.mono (by simp; omega))
  refine Below.grown (a2.alloc (by simp at hs3; omega) o2) hg (by simp at hs3 ⊢; omega) (fun k hk => (hown.lt k hk).1)

theorem put_yes (A : Option Addr) (n c : Nat) (l : List Ent) (w : World) (hn : 1 ≤ n) (hm : n ≤ 1000) (hr : REnt w w.heap.size A n l) (hok : okAll l = true) :
   Calls Try.prog 8 #[.slice A n c] w fun e w' => ∃ v, e = .returned (.tuple #[v, .int .i64 0]) ∧ w'.ownsRow w.heap.size 5 1 v (4 * n) (bcells (putB l)) ∧ Below w.heap.size w w' := by
  have hs : isStk l = true := by unfold isStk; rw [hr.1, hok]; simp; omega
  have HA := fun W hW => isStack_all A n c l W hW
  rw [hs] at HA
  obtain ⟨i0, hi, hz0, hz1, hz2⟩ := info_parts Try.info5
  obtain ⟨hl, hc⟩ := id hr
  obtain ⟨b, off, rfl, hb, hc⟩ := hc (by omega)
  have Hl := hid hl
  have HA' := hid HA
  have Hi := hid hi; have Hz0 := hid hz0; have Hz1 := hid hz1; have Hz2 := hid hz2
  clear HA hl hi hz0 hz1 hz2 hs
  go_enter Try.func8, Try.ntmps8
  go_wp2_with (first
    | (go_at_call 14; (with_reducible refine (HA'.out _ hr).mono ?_); rintro e' w1 ⟨rfl, hb1⟩)
    | (at_make; refine wpList_make_own _ rfl _ _ 23 rfl w.heap.size 5 i0 (.int .u8 0) 1 Try.underlying23 Hi.out Hz0.out Hz1.out _ _ _ (4 * n) rfl rfl (by omega) (by rw [Hz2.out]; omega) (by unfold maxLen; omega) (by have := hb1.size; omega) ?_; intro w2 hown2 hg2))
  have hb2 : Below w.heap.size w w2 := hb1.trans ((grown_below hg2).mono hb1.size)
  go_loopw [4, 17] (fun v i wr => ∃ k : Nat, k ≤ n ∧ i = .int .i64 k ∧ wr.ownsRow w.heap.size 5 1 v (4 * k) (bcells (putB (l.take k))) ∧ Below w.heap.size w wr) (fun _ i _ => n - (intOf i).toNat)
  case atStart => exact ⟨0, Nat.zero_le _, rfl, hown2, hb2⟩
  case round =>
    obtain ⟨k, hk, rfl, hown, hbel⟩ := hrel
    by_cases hlt : k < n
    · have Hl2 : l.length = n := Hl.out
      obtain ⟨e, he⟩ : ∃ e, l[k]? = some e := ⟨l[k]'(by omega), List.getElem?_eq_getElem (by omega)⟩
      obtain ⟨c0, c1, c2, c3⟩ := hc k e he
      have Hfit := hid (okAll_fits hok he)
      have Ht := hid (putB_take he)
      have c0' := (hbel.cell (p := ⟨b, off + k * 4, none⟩) hb).trans c0
      have c1' := (hbel.cell (p := ⟨b, off + k * 4 + 1, none⟩) hb).trans c1
      have c2' := (hbel.cell (p := ⟨b, off + k * 4 + 2, none⟩) hb).trans c2
      have c3' := (hbel.cell (p := ⟨b, off + k * 4 + 3, none⟩) hb).trans c3
      clear c0 c1 c2 c3 he hok Hl2 hc hown2
      have HW := hid (word_range Hfit.out)
      obtain ⟨g1, g2⟩ := HW.out
      go_wp2_with (first
        | (go_at_call 15; (with_reducible refine (pack_any e Hfit.out _).mono ?_); rintro e' w3 ⟨rfl, hb3⟩; have hown3 := own_below (hown.alloc _) hb3)
        | (at_builtin; refine wpList_append_own _ rfl _ _ 23 rfl w.heap.size 5 i0 (.int .u8 0) 1 1 Try.underlying23 Hi.out Hz0.out Hz1.out Hz2.out rfl (by decide) _ _ _ rfl (hown3.alloc _) ⟨w3.heap.size, 0, none⟩ 4 4 (bcells e.bytes) rfl rfl (new_row (bytes_row g1 g2)) (bcells_one _) (by unfold maxLen; omega) (by omega) (by have := hbel.size; have := hb3.size; simp at this ⊢; omega) ?_; intro v' w4 hown4 hg4 _; have hbel4 := below_round rfl hbel hb3 hown hg4; clear hg4))
      go_roundw
      case rel => exact ⟨k + 1, by omega, by go_num, by rw [Ht.out, bcells_app]; exact hown4, hbel4⟩
      case measure => simp [intOf]; omega
    · obtain rfl : k = n := by omega
      go_wp2_with fail
      go_ret2
      exact ⟨_, rfl, by rw [List.take_of_length_le (by rw [Hl.out]; omega)] at hown; exact hown, hbel⟩
end Go.Proofs.Ytihbpggoieieoaa
