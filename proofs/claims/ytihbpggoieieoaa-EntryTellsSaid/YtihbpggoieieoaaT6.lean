import Derived.Test.YtihbpggoieieoaaK
import Derived.Test.YtihbpggoieieoaaR
namespace Go.Proofs.Ytihbpggoieieoaa
open Go.RowKit
set_option maxHeartbeats 1600000
set_option maxRecDepth 100000

/-- An owned row of bytes reads as bytes. -/
theorem own_byt {w : World} {base : Nat} {v : Value} {n : Nat} {l : List UInt8} (h : w.ownsRow base 5 1 v n (bcells l)) : ∃ A cap, v = .slice A n cap ∧ RByt w w.heap.size A n l := by
  have hn : l.length = n := by have := h.1; rw [bcells_len] at this; omega
  rcases Nat.eq_zero_or_pos n with h0 | h0
  · rcases h.2 with ⟨rfl, rfl⟩ | ⟨g, cap, cur, rfl, _⟩
    · exact ⟨none, 0, rfl, hn, fun h => by omega⟩
    · exact ⟨_, cap, rfl, hn, fun h => by omega⟩
  · obtain ⟨g, cap, rfl, _, hlt⟩ := h.form h0
    refine ⟨_, cap, rfl, hn, fun _ => ⟨g, 0, rfl, hlt, fun i x hx => ?_⟩⟩
    have := h.cells (g := g) rfl i (.int .u8 (x.toNat : Int)) (by simp [bcells, hx])
    rwa [Go.WideShapes.add_plain] at this
theorem RByt.take {w : World} {B n k : Nat} {A : Option Addr} {l : List UInt8} (h : RByt w B A n l) (hk : k ≤ n) : RByt w B A k (l.take k) := by
  refine ⟨by rw [List.length_take, h.1]; omega, fun hk0 => ?_⟩
  obtain ⟨b, off, h1, h2, h3⟩ := h.2 (by omega)
  refine ⟨b, off, h1, h2, fun i x hx => h3 i x ?_⟩
  rw [List.getElem?_take] at hx
  split at hx
  · exact hx
  · simp at hx
theorem getA_none {bs : List UInt8} {v : Value} {w : World} (h : getS bs = none) (hc : Calls Try.prog 10 #[v] w (GetAns bs w)) :
    Calls Try.prog 10 #[v] w fun e w' => e = .returned (.tuple #[.slice none 0 0, .int .i64 2]) ∧ Below w.heap.size w w' := by
  refine hc.mono fun e w' ha => ?_
  rcases ha with ⟨l, h0, _⟩ | ⟨_, he, hb⟩
  · rw [h] at h0; cases h0
  · exact ⟨he, hb⟩
theorem refA_yes {l : List Ent} {v : Value} {w : World} (h : isStk l = true) (hc : Calls Try.prog 9 #[v] w (PutA l w)) :
    Calls Try.prog 9 #[v] w fun e w' => ∃ g c, e = .returned (.tuple #[.slice (some ⟨g, 0, none⟩) (4 * l.length) c, .int .i64 0]) ∧ 4 * l.length ≤ c ∧ RByt w' w'.heap.size (some ⟨g, 0, none⟩) (4 * l.length) (putB l) ∧ Below w.heap.size w w' := by
  refine hc.mono fun e w' ha => ?_
  rcases ha with ⟨_, v', he, ho, hb⟩ | ⟨h0, _⟩
  · have h1 : 1 ≤ l.length := ((isStk_iff l).1 h).1
    rcases ho.2 with ⟨_, h2⟩ | ⟨g, cap, cur, rfl, _, hh, hnc, _⟩
    · omega
    · obtain ⟨A, cap', hv, hr⟩ := own_byt ho
      simp only [Value.slice.injEq] at hv
      obtain ⟨rfl, _, rfl⟩ := hv
      exact ⟨g, cap, he, hnc, hr, hb⟩
  · rw [h] at h0; cases h0
theorem refA_no {l : List Ent} {v : Value} {w : World} (h : isStk l = false) (hc : Calls Try.prog 9 #[v] w (PutA l w)) :
    Calls Try.prog 9 #[v] w fun e w' => e = .returned (.tuple #[.slice none 0 0, .int .i64 1]) ∧ Below w.heap.size w w' := by
  refine hc.mono fun e w' ha => ?_
  rcases ha with ⟨h0, _⟩ | ⟨_, he, hb⟩
  · rw [h] at h0; cases h0
  · exact ⟨he, hb⟩

theorem torn_out (A : Option Addr) (n c : Nat) (l : List Ent) (k : Int) (w : World) (hr : REnt w w.heap.size A n l) (h : isStk l = false ∨ 100 < n ∨ k < 0) :
    Calls Try.prog 6 #[.slice A n c, .int .i64 k] w fun e w' => e = .returned (.bool true) ∧ Below w.heap.size w w' := by
  have HR := hid hr
  have Hl := hid hr.1
  clear hr
  cases hs : isStk l with
  | false =>
    have Hs := hid hs
    clear hs h
    go_enter Try.func6, Try.ntmps6
    go_wp2_with (go_at_call 7; (with_reducible refine (alive_any _).mono ?_); rintro e' w1 ⟨rfl, hb1⟩)
    refine (refA_no Hs.out (ref_all A n c l _ ((HR.out.below hb1).more hb1.size))).mono ?_
    rintro e' w2 ⟨rfl, hb2⟩
    go_wp2_with fail
    go_ret
    exact ⟨rfl, hb1.trans (hb2.mono hb1.size)⟩
  | true =>
    have Hs := hid hs
    rcases (show 100 < n ∨ (n ≤ 100 ∧ k < 0) by rw [hs] at h; simp at h; omega) with h1 | ⟨h1, h2⟩
    · have t : decide ((100 : Int) < (n : Int)) = true := by simp; omega
      clear hs h
      go_enter Try.func6, Try.ntmps6
      go_wp2_with (go_at_call 7; (with_reducible refine (alive_any _).mono ?_); rintro e' w1 ⟨rfl, hb1⟩)
      refine (refA_yes Hs.out (ref_all A n c l _ ((HR.out.below hb1).more hb1.size))).mono ?_
      rintro e' w2 ⟨g, c, rfl, _, _, hb2⟩
      go_wp2_with fail
      go_ret
      exact ⟨rfl, hb1.trans (hb2.mono hb1.size)⟩
    · have t : decide ((100 : Int) < (n : Int)) = false := by simp; omega
      have t' : decide (k < 0) = true := by simpa using h2
      clear hs h
      go_enter Try.func6, Try.ntmps6
      go_wp2_with (go_at_call 7; (with_reducible refine (alive_any _).mono ?_); rintro e' w1 ⟨rfl, hb1⟩)
      refine (refA_yes Hs.out (ref_all A n c l _ ((HR.out.below hb1).more hb1.size))).mono ?_
      rintro e' w2 ⟨g, c, rfl, _, _, hb2⟩
      go_wp2_with fail
      go_ret
      exact ⟨rfl, hb1.trans (hb2.mono hb1.size)⟩

theorem byt_src {w : World} {B g o n : Nat} {bs : List UInt8} (h : RByt w B (some ⟨g, o, none⟩) n bs) (hn : 0 < n) : ∀ (j : Nat) (u : Value), (bcells bs)[j]? = some u → w.cell? ((⟨g, o, none⟩ : Addr).add j) = some u := by
  intro j u hu
  obtain ⟨b, off, h1, _, hc⟩ := h.2 hn
  simp only [Option.some.injEq, Addr.mk.injEq] at h1
  obtain ⟨rfl, rfl, _⟩ := h1
  rw [Go.WideShapes.add_plain]
  simp only [bcells, List.getElem?_map, Option.map_eq_some_iff] at hu
  obtain ⟨x, hx, rfl⟩ := hu
  exact hc j x hx
theorem byt_len {w : World} {B n : Nat} {A : Option Addr} {bs : List UInt8} (h : RByt w B A n bs) : (bcells bs).length = n * 1 := by rw [bcells_len, h.1]; omega

theorem below_two {w3 w4 w5 : World} {o : Obj} {v : Value} {e : TypeId} {size n : Nat} {xs : List Value} (h4 : w3.grownBy w4 none) (hown : w4.ownsRow w3.heap.size e size v n xs) (h5 : (w4.alloc o).grownBy w5 v.ownBlock) : Below w3.heap.size w3 w5 :=
  Below.grown ((grown_below h4).alloc (grown_below h4).size o) h5 (by have := h4.size; simp; omega) (fun k hk => (hown.lt k hk).1)

theorem torn_in (A : Option Addr) (n c : Nat) (l : List Ent) (k : Nat) (w : World) (hr : REnt w w.heap.size A n l) (hs : isStk l = true) (hn : n ≤ 100) :
    Calls Try.prog 6 #[.slice A n c, .int .i64 k] w fun e w' => e = .returned (.bool true) ∧ Below w.heap.size w w' := by
  have HR := hid hr
  have Hl := hid hr.1
  have hn1 : 1 ≤ n := by have := ((isStk_iff l).1 hs).1; have := hr.1; omega
  have Hs := hid hs
  clear hr hs
  have t : decide ((100 : Int) < (n : Int)) = false := by simp; omega
  have hq4 : k % (4 * n) < 4 * n := Nat.mod_lt _ (by omega)
  have hi0 : 0 ≤ (k : Int) % (4 * (n : Int)) := Int.emod_nonneg _ (by omega)
  have hi1 : (k : Int) % (4 * (n : Int)) < 4 * (n : Int) := Int.emod_lt_of_pos _ (by omega)
  go_enter Try.func6, Try.ntmps6
  go_wp2_with (go_at_call 7; (with_reducible refine (alive_any _).mono ?_); rintro e' w1 ⟨rfl, hb1⟩)
  have hcall := refA_yes Hs.out (ref_all A n c l w1 ((HR.out.below hb1).more hb1.size))
  rw [Hl.out] at hcall
  refine hcall.mono ?_
  clear hcall
  rintro e' w2 ⟨g, c2, rfl, hc2, hr2, hb2⟩
  have HR2 := hid hr2
  clear hr2
  have hi2 : (k : Int) % (4 * (n : Int)) ≤ (c2 : Int) := by omega
  have hb02 : Below w.heap.size w w2 := hb1.trans (hb2.mono hb1.size)
  obtain ⟨i0, hi, hz0, hz1, hz2⟩ := info_parts Try.info5
  have Hi := hid hi; have Hz0 := hid hz0; have Hz1 := hid hz1; have Hz2 := hid hz2
  clear hi hz0 hz1 hz2
  go_wp2_with fail
  refine (getA_none (getS_take Hs.out (by rw [Hl.out]; exact hq4)) (get_all _ _ _ _ _ (HR2.out.take (by omega)))).mono ?_
  rintro e' w3 ⟨rfl, hb3⟩
  have hr3 := (HR2.out.below hb3).more hb3.size
  have hb03 := hb02.trans (hb3.mono hb02.size)
  have hs3 := hb03.size
  have HR3 := hid hr3
  clear hr3 hi0 hi1 hi2 hq4 HR2
  go_wp2_with (first
    | (at_builtin; refine wpList_append_own _ rfl (.const (.slice none 0 0)) (.tmp 47) 23 rfl w3.heap.size 5 i0 (.int .u8 0) 1 1 Try.underlying23 Hi.out Hz0.out Hz1.out Hz2.out rfl (by decide) _ _ _ rfl (World.ownsRow_nil _ _ _ _) ⟨g, 0, none⟩ (4 * n) c2 (bcells (putB l)) rfl (byt_len HR3.out) (byt_src HR3.out (by omega)) (bcells_one _) (by unfold maxLen; omega) (by omega) (Nat.le_refl _) ?_; intro v4 w4 hown4 hg4 _; simp only [Nat.zero_add, List.nil_append] at hown4; have hs4 := hg4.size)
    | (at_builtin; refine wpList_append_own _ rfl (.tmp 48) (.tmp 49) 23 rfl w3.heap.size 5 i0 (.int .u8 0) 1 1 Try.underlying23 Hi.out Hz0.out Hz1.out Hz2.out rfl (by decide) _ _ _ rfl (hown4.alloc _) ⟨w4.heap.size, 0, none⟩ 4 4 (bcells [0, 0, 1, 0]) rfl rfl (new_row rfl) (bcells_one _) (by unfold maxLen; omega) (by omega) (by simp; omega) ?_; intro v5 w5 hown5 hg5 _))
  have hb5 := below_two hg4 hown4 hg5
  rw [← bcells_app] at hown5
  obtain ⟨A5, c5, rfl, hr5⟩ := own_byt hown5
  have Hr5 := hid hr5
  have hs5 := hb5.size
  have hm5 : getS (putB l ++ [0, 0, 1, 0]) = none := getS_more Hs.out (by rw [Hl.out]; exact hn)
  have Hm5 := hid hm5
  clear hg4 hg5 hown4 hown5 hr5 hm5 hs4
  refine (getA_none Hm5.out (get_all _ _ _ _ _ Hr5.out)).mono ?_
  rintro e' w6 ⟨rfl, hb6⟩
  have hb36 := hb5.trans (hb6.mono hs5)
  have hr6 := (HR3.out.below hb36).more hb36.size
  have HR6 := hid hr6
  have hb06 := hb03.trans (hb36.mono hb03.size)
  clear hr6 Hr5 hb5 hb6
  go_wp2_with (first
    | (at_builtin; refine wpList_append_own _ rfl (.const (.slice none 0 0)) (.tmp 55) 23 rfl w6.heap.size 5 i0 (.int .u8 0) 1 1 Try.underlying23 Hi.out Hz0.out Hz1.out Hz2.out rfl (by decide) _ _ _ rfl (World.ownsRow_nil _ _ _ _) ⟨g, 0, none⟩ (4 * n) c2 (bcells (putB l)) rfl (byt_len HR6.out) (byt_src HR6.out (by omega)) (bcells_one _) (by unfold maxLen; omega) (by omega) (Nat.le_refl _) ?_; intro v7 w7 hown7 hg7 _; simp only [Nat.zero_add, List.nil_append] at hown7; have hs7 := hg7.size)
    | (at_builtin; refine wpList_append_own _ rfl (.tmp 56) (.tmp 57) 23 rfl w6.heap.size 5 i0 (.int .u8 0) 1 1 Try.underlying23 Hi.out Hz0.out Hz1.out Hz2.out rfl (by decide) _ _ _ rfl (hown7.alloc _) ⟨w7.heap.size, 0, none⟩ 1 1 (bcells [0]) rfl rfl (new_row rfl) (bcells_one _) (by unfold maxLen; omega) (by omega) (by simp; omega) ?_; intro v8 w8 hown8 hg8 _))
  have hb8 := below_two hg7 hown7 hg8
  rw [← bcells_app] at hown8
  obtain ⟨A8, c8, rfl, hr8⟩ := own_byt hown8
  have Hr8 := hid hr8
  have hs8 := hb8.size
  have hm8 : getS (putB l ++ [0]) = none := getS_mod (by rw [List.length_append, putB_len]; simp)
  have Hm8 := hid hm8
  clear hg7 hg8 hown7 hown8 hr8 hm8 hs7
  refine (getA_none Hm8.out (get_all _ _ _ _ _ Hr8.out)).mono ?_
  rintro e' w9 ⟨rfl, hb9⟩
  have hb69 := hb8.trans (hb9.mono hs8)
  have hb09 := hb06.trans (hb69.mono hb06.size)
  clear Hr8 hb8 hb9
  go_wp2_with (go_at_call 12; (with_reducible refine (num_any _ _).mono ?_); rintro e' w3 ⟨rfl, rfl⟩)
  go_ret
  exact ⟨rfl, hb09⟩
theorem torn_any (A : Option Addr) (n c : Nat) (l : List Ent) (k : Int) (w : World) (hr : REnt w w.heap.size A n l) :
    Calls Try.prog 6 #[.slice A n c, .int .i64 k] w fun e w' => e = .returned (.bool true) ∧ Below w.heap.size w w' := by
  by_cases h : isStk l = false ∨ 100 < n ∨ k < 0
  · exact torn_out A n c l k w hr h
  · obtain ⟨k', rfl⟩ := Int.eq_ofNat_of_zero_le (show 0 ≤ k by omega)
    exact torn_in A n c l k' w hr (by cases hs : isStk l <;> simp [hs] at h ⊢) (by omega)
end Go.Proofs.Ytihbpggoieieoaa
