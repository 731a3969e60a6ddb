/- OptTells. -/
import Derived.Test.YtabgbhkpeeibaaaOpJ
import Derived.Test.YtabgbhkpeeibaaaOpN
namespace Go.Proofs.Ytabgbhkpeeibaaa
open Go.RowKit
set_option maxHeartbeats 6400000
set_option maxRecDepth 100000
theorem Held2.s {w w' : World} {nd : Int} {A : Option Addr} {n c : Nat} {x : Wnt} {y : WSl} (h : Held2 w nd A n c x y w') : w'.cell? ⟨w.heap.size, 0, none⟩ = some (.int .i64 nd) ∧ w'.cell? ⟨w.heap.size, 1, none⟩ = some (.slice A n c) ∧ w'.cell? ⟨w.heap.size + 1, 0, none⟩ = some (.int .i64 x.frm) ∧ w'.cell? ⟨w.heap.size + 1, 1, none⟩ = some (.int .i64 x.too) ∧ w'.cell? ⟨w.heap.size + 1, 2, none⟩ = some (.int .i64 x.bnd) ∧ w'.cell? ⟨w.heap.size + 1, 3, none⟩ = some (.slice y.av y.nv y.cv) ∧ w'.cell? ⟨w.heap.size + 1, 4, none⟩ = some (.slice y.an y.nn y.cn) ∧ w'.cell? ⟨w.heap.size + 1, 5, none⟩ = some (.slice y.al y.nl y.cl) ∧ w'.cell? ⟨w.heap.size + 1, 6, none⟩ = some (.slice y.ac y.nc y.cc) := ⟨h.g.1, h.g.2, h.v⟩
/-- Three boxes: a graph's, a want's and a state's. -/
def HeldO (w : World) (nd : Int) (A : Option Addr) (n c : Nat) (x : Wnt) (y : WSl) (v k : Int) (w' : World) : Prop :=
  Held2 w nd A n c x y w' ∧ w'.heap[w.heap.size + 2]? = some (.cells #[.int .i64 v, .int .i64 k] 29 (0, 0))
theorem HeldO.start (w : World) (nd : Int) (A : Option Addr) (n c : Nat) (x : Wnt) (y : WSl) (v k : Int) : HeldO w nd A n c x y v k (((w.alloc (.cells #[.int .i64 nd, .slice A n c] 24)).alloc (.cells #[.int .i64 x.frm, .int .i64 x.too, .int .i64 x.bnd, .slice y.av y.nv y.cv, .slice y.an y.nn y.cn, .slice y.al y.nl y.cl, .slice y.ac y.nc y.cc] 27)).alloc (.cells #[.int .i64 v, .int .i64 k] 29)) := by
  have h0 := Held2.start w nd A n c x y
  obtain ⟨w2, hw2⟩ : ∃ w2, (w.alloc (.cells #[.int .i64 nd, .slice A n c] 24)).alloc (.cells #[.int .i64 x.frm, .int .i64 x.too, .int .i64 x.bnd, .slice y.av y.nv y.cv, .slice y.an y.nn y.cn, .slice y.al y.nl y.cl, .slice y.ac y.nc y.cc] 27) = w2 := ⟨_, rfl⟩
  have hs2 : w2.heap.size = w.heap.size + 2 := by rw [← hw2]; simp
  rw [hw2] at h0 ⊢
  have h1 : Below w2.heap.size w2 (w2.alloc (.cells #[.int .i64 v, .int .i64 k] 29)) := (Below.refl _ _).alloc (Nat.le_refl _) _
  have e1 := heap_alloc_new w2 (.cells #[.int .i64 v, .int .i64 k] 29)
  rw [hs2] at e1
  exact ⟨h0.next h1, e1⟩
theorem HeldO.next {w w' w'' : World} {nd : Int} {A : Option Addr} {n c : Nat} {x : Wnt} {y : WSl} {v k : Int} (h : HeldO w nd A n c x y v k w') (hb : Below w'.heap.size w' w'') : HeldO w nd A n c x y v k w'' := ⟨h.1.next hb, box_below h.2 hb (blk_lt h.2)⟩
theorem HeldO.drew {w w' : World} {nd : Int} {A : Option Addr} {n c : Nat} {x : Wnt} {y : WSl} {v k : Int} (h : HeldO w nd A n c x y v k w') : HeldO w nd A n c x y v k w'.drew := ⟨h.1.drew, h.2⟩
theorem HeldO.calls {w : World} {nd : Int} {A : Option Addr} {n c : Nat} {x : Wnt} {y : WSl} {v k : Int} {f : Nat} {args : Array Value} {R : Ending → Prop} {w' : World} (h : HeldO w nd A n c x y v k w') (hc : Calls Try.prog f args w' fun e w'' => R e ∧ Below w'.heap.size w' w'') :
    Calls Try.prog f args w' fun e w'' => R e ∧ HeldO w nd A n c x y v k w'' := hc.mono fun _ _ ⟨h1, h2⟩ => ⟨h1, h.next h2⟩
theorem HeldO.calls2 {w : World} {nd : Int} {A : Option Addr} {n c : Nat} {x : Wnt} {y : WSl} {v k : Int} {f : Nat} {args : Array Value} {R : Ending → Prop} {w' : World} (h : HeldO w nd A n c x y v k w') (hc : Calls Try.prog f args w' fun e w'' => R e ∧ Below w'.heap.size w' w'') :
    Calls Try.prog f args w' fun e w'' => R e ∧ HeldO w nd A n c x y v k w'' ∧ Below w'.heap.size w' w'' := hc.mono fun _ _ ⟨h1, h2⟩ => ⟨h1, h.next h2, h2⟩
theorem new2_other {w : World} {B : Nat} {o p : Obj} (h : w.heap[B]? = some o) : (w.alloc p).heap[B]? = some o := by
  have hl := blk_lt h
  show (w.heap.push p)[B]? = some o
  rw [Array.getElem?_push, if_neg (by omega), h]
/-- A state's box more. -/
theorem HeldO.new2 {w w' : World} {nd : Int} {A : Option Addr} {n c : Nat} {x : Wnt} {y : WSl} {v k : Int} {a b : Int} (h : HeldO w nd A n c x y v k w') : HeldO w nd A n c x y v k (w'.alloc (.cells #[.int .i64 a, .int .i64 b] 29)) ∧ (w'.alloc (.cells #[.int .i64 a, .int .i64 b] 29)).heap[w'.heap.size]? = some (.cells #[.int .i64 a, .int .i64 b] 29 (0, 0)) :=
  ⟨h.next ((Below.refl _ _).alloc (Nat.le_refl _) _), heap_alloc_new w' _⟩
theorem optTells_out (hO : OptSpec 9 12 14 18 16) (nd : Int) (A : Option Addr) (n c : Nat) (x : Wnt) (y : WSl) (v k : Int) (Ad : Option Addr) (n' c' : Nat) (Ae : Option Addr) (ne ce : Nat) (w : World) (h : 40 < n ∨ fewB y = false ∨ 200 < n' ∨ 60 < ne) :
    Calls Try.prog 3 #[.agg #[.int .i64 nd, .slice A n c], .agg #[.int .i64 x.frm, .int .i64 x.too, .int .i64 x.bnd, .slice y.av y.nv y.cv, .slice y.an y.nn y.cn, .slice y.al y.nl y.cl, .slice y.ac y.nc y.cc], .slice Ad n' c', .agg #[.int .i64 v, .int .i64 k], .slice Ae ne ce] w fun e w' => e = .returned (.bool true) ∧ Below w.heap.size w w' := by
  have hS := HeldO.start w nd A n c x y v k
  have HA := hid (fun (w' : World) (h : HeldO w nd A n c x y v k w') => h.calls (alive15 hO w'))
  have HFw := hid (fun (w' : World) (h : HeldO w nd A n c x y v k w') => h.calls (few_any x y w'))
  by_cases h1 : 40 < n
  · have t1 : decide ((40 : Int) < (n : Int)) = true := by simp; omega
    clear h h1 hO
    go_enter Try.func3, Try.ntmps3
    go_wp2_with (go_at_call 7; (with_reducible refine (HA.out _ hS).mono ?_); rintro e' w1 ⟨rfl, h1⟩; obtain ⟨g0, g1⟩ := h1.1.g; obtain ⟨g2, g3, g4, g5, g6, g7, g8⟩ := h1.1.v)
    go_ret
    exact ⟨rfl, h1.1.1⟩
  · have t1 : decide ((40 : Int) < (n : Int)) = false := by simp; omega
    cases hf : fewB y with
    | false =>
      rw [hf] at HFw
      clear h h1 hO hf
      go_enter Try.func3, Try.ntmps3
      go_wp2_with (first
        | (go_at_call 7; (with_reducible refine (HA.out _ hS).mono ?_); rintro e' w1 ⟨rfl, h1⟩; obtain ⟨g0, g1⟩ := h1.1.g; obtain ⟨g2, g3, g4, g5, g6, g7, g8⟩ := h1.1.v)
        | (go_at_call 8; (with_reducible refine (HFw.out _ h1).mono ?_); rintro e' w2 ⟨rfl, h2⟩; obtain ⟨q0, q1⟩ := h2.1.g; obtain ⟨q2, q3, q4, q5, q6, q7, q8⟩ := h2.1.v))
      go_ret
      exact ⟨rfl, h2.1.1⟩
    | true =>
      rw [hf] at HFw
      by_cases hn' : 200 < n'
      · have t2 : decide ((200 : Int) < (n' : Int)) = true := by simp; omega
        clear h h1 hO hf hn'
        go_enter Try.func3, Try.ntmps3
        go_wp2_with (first
          | (go_at_call 7; (with_reducible refine (HA.out _ hS).mono ?_); rintro e' w1 ⟨rfl, h1⟩; obtain ⟨g0, g1⟩ := h1.1.g; obtain ⟨g2, g3, g4, g5, g6, g7, g8⟩ := h1.1.v)
          | (go_at_call 8; (with_reducible refine (HFw.out _ h1).mono ?_); rintro e' w2 ⟨rfl, h2⟩; obtain ⟨q0, q1⟩ := h2.1.g; obtain ⟨q2, q3, q4, q5, q6, q7, q8⟩ := h2.1.v))
        go_ret
        exact ⟨rfl, h2.1.1⟩
      · have t2 : decide ((200 : Int) < (n' : Int)) = false := by simp; omega
        have t3 : decide ((60 : Int) < (ne : Int)) = true := by
          rcases h with h | h | h | h
          · omega
          · rw [hf] at h; cases h
          · omega
          · simp; omega
        clear h h1 hO hf hn'
        go_enter Try.func3, Try.ntmps3
        go_wp2_with (first
          | (go_at_call 7; (with_reducible refine (HA.out _ hS).mono ?_); rintro e' w1 ⟨rfl, h1⟩; obtain ⟨g0, g1⟩ := h1.1.g; obtain ⟨g2, g3, g4, g5, g6, g7, g8⟩ := h1.1.v)
          | (go_at_call 8; (with_reducible refine (HFw.out _ h1).mono ?_); rintro e' w2 ⟨rfl, h2⟩; obtain ⟨q0, q1⟩ := h2.1.g; obtain ⟨q2, q3, q4, q5, q6, q7, q8⟩ := h2.1.v))
        go_ret
        exact ⟨rfl, h2.1.1⟩
theorem optTells_in (hO : OptSpec 9 12 14 18 16) (nd : Int) (A : Option Addr) (n c : Nat) (x : Wnt) (y : WSl) (v k : Int) (l : List Lnk) (Ad : Option Addr) (n' c' : Nat) (dn : List Bool) (Ae : Option Addr) (ne ce : Nat) (es : List Int) (w : World) (hg : GArg w nd A n c l) (hn : n ≤ 40) (hw : WArg w x y) (hd : DArg w Ad n' c' dn) (he : EArg w Ae ne ce es) (hf : fewB y = true)
    (hv : -9223372036854775808 ≤ v ∧ v ≤ 9223372036854775807) (hk : -9223372036854775808 ≤ k ∧ k ≤ 9223372036854775807) :
    Calls Try.prog 3 #[.agg #[.int .i64 nd, .slice A n c], .agg #[.int .i64 x.frm, .int .i64 x.too, .int .i64 x.bnd, .slice y.av y.nv y.cv, .slice y.an y.nn y.cn, .slice y.al y.nl y.cl, .slice y.ac y.nc y.cc], .slice Ad n' c', .agg #[.int .i64 v, .int .i64 k], .slice Ae ne ce] w fun e w' => e = .returned (.bool true) ∧ Below w.heap.size w w' := by
  have hS := HeldO.start w nd A n c x y v k
  have t1 : decide ((40 : Int) < (n : Int)) = false := by simp; omega
  have t2 : decide ((200 : Int) < (n' : Int)) = false := by have := hd.len; simp; omega
  have t3 : decide ((60 : Int) < (ne : Int)) = false := by have := he.len; simp; omega
  have hl4 : y.nv ≤ 20 ∧ y.nn ≤ 60 ∧ y.nl ≤ 60 ∧ y.nc ≤ 60 := by
    unfold fewB at hf
    simp only [Bool.and_eq_true, decide_eq_true_eq] at hf
    omega
  obtain ⟨l1, l2, l3, l4⟩ := hl4
  have HA := hid (fun (w' : World) (h : HeldO w nd A n c x y v k w') => h.calls (alive15 hO w'))
  have HFw := hid (fun (w' : World) (h : HeldO w nd A n c x y v k w') => h.calls (few_any x y w'))
  rw [hf] at HFw
  have HC1 := hid (fun (w' : World) (h : HeldO w nd A n c x y v k w') => h.calls (hO.cost nd A n c l x y Ad n' c' dn w' (hg.on h.1.1) (hw.on h.1.1) (hd.on h.1.1) (by omega) (by omega) (by omega) (by omega)))
  have HC2 := hid (fun (w' : World) (h : HeldO w nd A n c x y v k w') => h.calls (refCost_spec nd A n c l x y Ad n' c' dn w' (hg.on h.1.1) (hw.on h.1.1) (hd.on h.1.1) (by omega) (by omega) (by omega) (by omega)))
  have HB1 := hid (fun (w' : World) (h : HeldO w nd A n c x y v k w') => h.calls (hO.start x y w' (hw.on h.1.1) (by omega)))
  have HB2 := hid (fun (w' : World) (h : HeldO w nd A n c x y v k w') => h.calls (refStart_spec x y w' (hw.on h.1.1) (by omega)))
  have HG1 := hid (fun (w' : World) (h : HeldO w nd A n c x y v k w') => h.calls (hO.goal x y w' (hw.on h.1.1) (by omega)))
  have HG2 := hid (fun (w' : World) (h : HeldO w nd A n c x y v k w') => h.calls (refGoal_spec x y w' (hw.on h.1.1) (by omega)))
  have HH1 := hid (fun (w' : World) (h : HeldO w nd A n c x y v k w') => h.calls (hO.has nd A n c l x y Ad n' c' dn Ae ne ce es w' (hg.on h.1.1) (hw.on h.1.1) (hd.on h.1.1) (by omega) (by omega) (by omega) (by omega) (he.on h.1.1)))
  have HH2 := hid (fun (w' : World) (h : HeldO w nd A n c x y v k w') => h.calls (refHas_spec newOpt_spec nd A n c l x y Ad n' c' dn Ae ne ce es w' (hg.on h.1.1) (hw.on h.1.1) (hd.on h.1.1) (by omega) (by omega) (by omega) (by omega) (he.on h.1.1)))
  have HS1 := hid (fun (e : Int) (he0 : -1 ≤ e ∧ e ≤ 80) (w' : World) (h : HeldO w nd A n c x y v k w') => h.calls (hO.step nd A n c l x y Ad n' c' dn v k e w' (hg.on h.1.1) (hw.on h.1.1) (hd.on h.1.1) (by omega) (by omega) (by omega) (by omega) hv hk (by omega)))
  have HS2 := hid (fun (e : Int) (he0 : -1 ≤ e ∧ e ≤ 80) (w' : World) (h : HeldO w nd A n c x y v k w') => h.calls2 (refStep_spec newOpt_spec nd A n c l x y Ad n' c' dn v k e w' (hg.on h.1.1) (hw.on h.1.1) (hd.on h.1.1) (by omega) (by omega) (by omega) (by omega) hv hk (by omega)))
  have HV := hid (fun (e : Int) => show ∃ q1 q2 q3, stepV (stepS nd l x dn v k e) = .tuple #[.agg #[.int .i64 q1, .int .i64 q2], .bool q3] from by
    cases stepS nd l x dn v k e with
    | none => exact ⟨_, _, _, rfl⟩
    | some p => exact ⟨_, _, _, rfl⟩)
  obtain ⟨m1, hm1⟩ : ∃ m1, (costS nd l x dn).1 = m1 := ⟨_, rfl⟩
  obtain ⟨m2, hm2⟩ : ∃ m2, (costS nd l x dn).2 = m2 := ⟨_, rfl⟩
  obtain ⟨b1, hb1⟩ : ∃ b1, (startS x).1 = b1 := ⟨_, rfl⟩
  obtain ⟨b2, hb2⟩ : ∃ b2, (startS x).2 = b2 := ⟨_, rfl⟩
  obtain ⟨e1, he1⟩ : ∃ e1, (goalS x).1 = e1 := ⟨_, rfl⟩
  obtain ⟨e2, he2⟩ : ∃ e2, (goalS x).2 = e2 := ⟨_, rfl⟩
  obtain ⟨f1, hf1⟩ : ∃ f1, hasS nd l x dn es = f1 := ⟨_, rfl⟩
  rw [hm1, hm2] at HC1 HC2
  rw [hb1, hb2] at HB1 HB2
  rw [he1, he2] at HG1 HG2
  rw [hf1] at HH1 HH2
  have s1 : (m1 != m1) = false := by simp
  have s2 : (m2 != m2) = false := by simp
  have s3 : (f1 != f1) = false := by simp
  have n1 : ∀ W, (binOp .neq 29 (.agg #[.int .i64 b1, .int .i64 b2]) (.agg #[.int .i64 b1, .int .i64 b2])).run Try.prog W = .ok (.bool false) W := fun W => by rw [neq2_run]; simp
  have n2 : ∀ W, (binOp .neq 29 (.agg #[.int .i64 e1, .int .i64 e2]) (.agg #[.int .i64 e1, .int .i64 e2])).run Try.prog W = .ok (.bool false) W := fun W => by rw [neq2_run]; simp
  have HNum := hid onum_any
  have ew2 : IntKind.i64.wrap (2 * (n : Int)) = 2 * (n : Int) := by rw [IntKind.wrap_i64]; omega
  clear hg hw hd hf he hv hk hm1 hm2 hb1 hb2 he1 he2 hf1 hO l1 l2 l3 l4
  go_enter Try.func3, Try.ntmps3
  go_wp2_with (first
    | (go_at_call 7; (with_reducible refine (HA.out _ hS).mono ?_); rintro e' w1 ⟨rfl, h1⟩; obtain ⟨g0, g1⟩ := h1.1.g; obtain ⟨g2, g3, g4, g5, g6, g7, g8⟩ := h1.1.v)
    | (go_at_call 8; (with_reducible refine (HFw.out _ h1).mono ?_); rintro e' w2 ⟨rfl, h2⟩; obtain ⟨q0, q1⟩ := h2.1.g; obtain ⟨q2, q3, q4, q5, q6, q7, q8⟩ := h2.1.v)
    | (go_at_call 9; (with_reducible refine (HC1.out _ h2).mono ?_); rintro e' w3 ⟨rfl, h3⟩; obtain ⟨x0, x1⟩ := h3.1.g; obtain ⟨x2, x3, x4, x5, x6, x7, x8⟩ := h3.1.v)
    | (go_at_call 10; (with_reducible refine (HC2.out _ h3).mono ?_); rintro e' w4 ⟨rfl, h4⟩; clear g0 g1 g2 g3 g4 g5 g6 g7 g8 q0 q1 q2 q3 q4 q5 q6 q7 q8 x0 x1 x2 x3 x4 x5 x6 x7 x8 ew2))
  have h4d := h4.drew
  have s4 := h4d.1.s
  go_region_held3 (fun w' => w'.cell? ⟨w.heap.size, 0, none⟩ = some (.int .i64 nd) ∧ w'.cell? ⟨w.heap.size, 1, none⟩ = some (.slice A n c) ∧ w'.cell? ⟨w.heap.size + 1, 0, none⟩ = some (.int .i64 x.frm) ∧ w'.cell? ⟨w.heap.size + 1, 1, none⟩ = some (.int .i64 x.too) ∧ w'.cell? ⟨w.heap.size + 1, 2, none⟩ = some (.int .i64 x.bnd) ∧ w'.cell? ⟨w.heap.size + 1, 3, none⟩ = some (.slice y.av y.nv y.cv) ∧ w'.cell? ⟨w.heap.size + 1, 4, none⟩ = some (.slice y.an y.nn y.cn) ∧ w'.cell? ⟨w.heap.size + 1, 5, none⟩ = some (.slice y.al y.nl y.cl) ∧ w'.cell? ⟨w.heap.size + 1, 6, none⟩ = some (.slice y.ac y.nc y.cc))
    (first
      | go_keep
      | exact s10
      | exact s9
      | exact s8
      | exact s7
      | exact s6
      | exact s5
      | exact s4)
    (first
      | (go_at_call 11; (with_reducible refine (HNum.out _ _).mono ?_); rintro _ _ ⟨rfl, rfl⟩)
      | (go_at_call 12; (with_reducible refine (HB1.out _ h4d).mono ?_); rintro e' w5 ⟨rfl, h5⟩; have s5 := h5.1.s)
      | (go_at_call 13; (with_reducible refine (HB2.out _ h5).mono ?_); rintro e' w6 ⟨rfl, h6⟩; have s6 := h6.1.s)
      | (go_at_call 14; (with_reducible refine (HG1.out _ h6).mono ?_); rintro e' w7 ⟨rfl, h7⟩; have s7 := h7.1.s)
      | (go_at_call 15; (with_reducible refine (HG2.out _ h7).mono ?_); rintro e' w8 ⟨rfl, h8⟩; have s8 := h8.1.s)
      | (go_at_call 16; (with_reducible refine (HH1.out _ h8).mono ?_); rintro e' w9 ⟨rfl, h9⟩; have s9 := h9.1.s)
      | (go_at_call 17; (with_reducible refine (HH2.out _ h9).mono ?_); rintro e' w10 ⟨rfl, h10⟩; have s10 := h10.1.s))
  have HL := hid h10
  have ew3 : IntKind.i64.wrap (2 * (n : Int)) = 2 * (n : Int) := by rw [IntKind.wrap_i64]; omega
  clear s4 s5 s6 s7 s8 s9 s10
  go_wp2_with fail
  go_loopw [16] (fun i wr => ∃ e : Int, -1 ≤ e ∧ e ≤ 2 * (n : Int) + 1 ∧ i = .int .i64 e ∧ Hid (HeldO w nd A n c x y v k wr)) (fun i _ => (2 * (n : Int) + 1 - intOf i).toNat)
  case atStart => exact ⟨-1, by omega, by omega, rfl, HL⟩
  case round =>
    obtain ⟨e, hk0, hk1, rfl, HSt⟩ := hrel
    obtain ⟨g0, g1⟩ := HSt.out.1.g
    by_cases hlt : e ≤ 2 * (n : Int)
    · have d1 : decide (e ≤ 2 * (n : Int)) = true := decide_eq_true hlt
      have ewk : IntKind.i64.wrap (e + 1) = e + 1 := by rw [IntKind.wrap_i64]; omega
      obtain ⟨g2, g3, g4, g5, g6, g7, g8⟩ := HSt.out.1.v
      obtain ⟨y0, y1, -⟩ := box_cells HSt.out.2
      obtain ⟨r1, r2, r3, hr⟩ := HV.out e
      have H1 := hid (HS1.out e (by omega))
      have H2 := hid (HS2.out e (by omega))
      rw [hr] at H1 H2
      have n3 : ∀ W, (binOp .neq 29 (.agg #[.int .i64 r1, .int .i64 r2]) (.agg #[.int .i64 r1, .int .i64 r2])).run Try.prog W = .ok (.bool false) W := fun W => by rw [neq2_run]; simp
      have s4 : (r3 != r3) = false := by simp
      clear hr
      go_wp2_with (first
        | (go_at_call 18; (with_reducible refine (H1.out _ HSt.out).mono ?_); rintro e' w3 ⟨rfl, h3⟩; obtain ⟨h4, k4⟩ := h3.new2 (a := r1) (b := r2); obtain ⟨p0, p1⟩ := h4.1.g; obtain ⟨p2, p3, p4, p5, p6, p7, p8⟩ := h4.1.v; obtain ⟨z0, z1, -⟩ := box_cells h4.2)
        | (go_at_call 19; (with_reducible refine (H2.out _ h4).mono ?_); rintro e' w5 ⟨rfl, h5, c5⟩; have k5 := box_below k4 c5 (blk_lt k4); obtain ⟨h6, k6⟩ := h5.new2 (a := r1) (b := r2); have k7 := new2_other (p := .cells #[.int .i64 r1, .int .i64 r2] 29) k5; obtain ⟨j0, j1, -⟩ := box_cells k6; obtain ⟨i0, i1, -⟩ := box_cells k7))
      go_roundw
      case rel => exact ⟨e + 1, by omega, by omega, by go_num, hid h6⟩
      case measure => simp [intOf]; omega
    · have d1 : decide (e ≤ 2 * (n : Int)) = false := decide_eq_false hlt
      go_wp2_with fail
      go_ret
      exact ⟨rfl, HSt.out.1.1⟩
end Go.Proofs.Ytabgbhkpeeibaaa
