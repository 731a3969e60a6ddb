/- PruneTells. -/
import Derived.Test.YtljgoffolbplfaaPrE
namespace Go.Proofs.Ytljgoffolbplfaa
open Go.RowKit
set_option maxHeartbeats 6400000
set_option maxRecDepth 100000
theorem Held2.s {w w' : World} {nd : Int} {A : Option Addr} {n c : Nat} {x : Wnt} {y : WSl} (h : Held2 w nd A n c x y w') : (w'.cell? ⟨w.heap.size, 0, none⟩ = some (.int .i64 nd) ∧ w'.cell? ⟨w.heap.size, 1, none⟩ = some (.slice A n c) ∧ w'.cell? ⟨w.heap.size + 1, 0, none⟩ = some (.int .i64 x.frm) ∧ w'.cell? ⟨w.heap.size + 1, 1, none⟩ = some (.int .i64 x.too) ∧ w'.cell? ⟨w.heap.size + 1, 2, none⟩ = some (.int .i64 x.bnd) ∧ w'.cell? ⟨w.heap.size + 1, 3, none⟩ = some (.slice y.av y.nv y.cv) ∧ w'.cell? ⟨w.heap.size + 1, 4, none⟩ = some (.slice y.an y.nn y.cn) ∧ w'.cell? ⟨w.heap.size + 1, 5, none⟩ = some (.slice y.al y.nl y.cl) ∧ w'.cell? ⟨w.heap.size + 1, 6, none⟩ = some (.slice y.ac y.nc y.cc)) := ⟨h.g.1, h.g.2, h.v⟩
theorem held2_bls {w : World} {nd : Int} {A : Option Addr} {n c : Nat} {x : Wnt} {y : WSl} {f : Nat} {args : Array Value} {L : List Bool} {m : Nat} {w' : World} (h : Held2 w nd A n c x y w') (hL : L.length = m) (hc : Calls Try.prog f args w' (BlAns L w')) :
    Calls Try.prog f args w' fun e w'' => ∃ A' c', e = .returned (.slice A' m c') ∧ (RBl w'' w''.heap.size A' m L ∧ m ≤ c' ∧ (A' = none → m = 0 ∧ c' = 0)) ∧ Below w'.heap.size w' w'' ∧ Held2 w nd A n c x y w'' :=
  (bls_out hL hc).mono fun _ _ ⟨A', c', h1, h2, h3⟩ => ⟨A', c', h1, h2, h3, h.next h3⟩
theorem pruneTells_out (hR : RightSpec 35) (hD : DownSpec 38) (nd : Int) (A : Option Addr) (n c : Nat) (x : Wnt) (y : WSl) (Ad : Option Addr) (n' c' : Nat) (w : World) (h : 130 < n ∨ fewB y = false ∨ 200 < n') :
    Calls Try.prog 12 #[.agg #[.int .i64 nd, .slice A n c], .agg #[.int .i64 x.frm, .int .i64 x.too, .int .i64 x.bnd, .slice y.av y.nv y.cv, .slice y.an y.nn y.cn, .slice y.al y.nl y.cl, .slice y.ac y.nc y.cc], .slice Ad n' c'] w fun e w' => e = .returned (.bool true) ∧ Below w.heap.size w w' := by
  have hS := Held2.start w nd A n c x y
  have HA := hid (fun (w' : World) (h : Held2 w nd A n c x y w') => h.calls (alive_any hR hD w'))
  have HFw := hid (fun (w' : World) (h : Held2 w nd A n c x y w') => h.calls (few_any x y w'))
  by_cases h1 : 130 < n
  · have t1 : decide ((130 : Int) < (n : Int)) = true := by simp; omega
    clear h h1 hR hD
    go_enter Try.func12, Try.ntmps12
    go_wp2_with (go_at_call 32; (with_reducible refine (HA.out _ hS).mono ?_); rintro e' w1 ⟨rfl, h1⟩; obtain ⟨g0, g1⟩ := h1.g; obtain ⟨g2, g3, g4, g5, g6, g7, g8⟩ := h1.v)
    go_ret
    exact ⟨rfl, h1.1⟩
  · have t1 : decide ((130 : Int) < (n : Int)) = false := by simp; omega
    cases hf : fewB y with
    | false =>
      rw [hf] at HFw
      clear h h1 hR hD hf
      go_enter Try.func12, Try.ntmps12
      go_wp2_with (first
        | (go_at_call 32; (with_reducible refine (HA.out _ hS).mono ?_); rintro e' w1 ⟨rfl, h1⟩; obtain ⟨g0, g1⟩ := h1.g; obtain ⟨g2, g3, g4, g5, g6, g7, g8⟩ := h1.v)
        | (go_at_call 33; (with_reducible refine (HFw.out _ h1).mono ?_); rintro e' w2 ⟨rfl, h2⟩; obtain ⟨q0, q1⟩ := h2.g; obtain ⟨q2, q3, q4, q5, q6, q7, q8⟩ := h2.v))
      go_ret
      exact ⟨rfl, h2.1⟩
    | true =>
      rw [hf] at HFw
      have t2 : decide ((200 : Int) < (n' : Int)) = true := by
        rcases h with h | h | h
        · omega
        · rw [hf] at h; cases h
        · simp; omega
      clear h h1 hR hD hf
      go_enter Try.func12, Try.ntmps12
      go_wp2_with (first
        | (go_at_call 32; (with_reducible refine (HA.out _ hS).mono ?_); rintro e' w1 ⟨rfl, h1⟩; obtain ⟨g0, g1⟩ := h1.g; obtain ⟨g2, g3, g4, g5, g6, g7, g8⟩ := h1.v)
        | (go_at_call 33; (with_reducible refine (HFw.out _ h1).mono ?_); rintro e' w2 ⟨rfl, h2⟩; obtain ⟨q0, q1⟩ := h2.g; obtain ⟨q2, q3, q4, q5, q6, q7, q8⟩ := h2.v))
      go_ret
      exact ⟨rfl, h2.1⟩
theorem pruneTells_in (hR : RightSpec 35) (hD : DownSpec 38) (nd : Int) (A : Option Addr) (n c : Nat) (l : List Lnk) (x : Wnt) (y : WSl) (Ad : Option Addr) (n' c' : Nat) (dn : List Bool) (w : World) (hg : GArg w nd A n c l) (hw : WArg w x y) (hd : DArg w Ad n' c' dn) (hf : fewB y = true) :
    Calls Try.prog 12 #[.agg #[.int .i64 nd, .slice A n c], .agg #[.int .i64 x.frm, .int .i64 x.too, .int .i64 x.bnd, .slice y.av y.nv y.cv, .slice y.an y.nn y.cn, .slice y.al y.nl y.cl, .slice y.ac y.nc y.cc], .slice Ad n' c'] w fun e w' => e = .returned (.bool true) ∧ Below w.heap.size w w' := by
  have hS := Held2.start w nd A n c x y
  have t1 : decide ((130 : Int) < (n : Int)) = false := by have := hg.len; simp; omega
  have t2 : decide ((200 : Int) < (n' : Int)) = false := by have := hd.len; simp; omega
  have hl4 : y.nv ≤ 20 ∧ y.nn ≤ 60 ∧ y.nl ≤ 60 ∧ y.nc ≤ 60 := by
    unfold fewB at hf
    simp only [Bool.and_eq_true, decide_eq_true_eq] at hf
    omega
  have HA := hid (fun (w' : World) (h : Held2 w nd A n c x y w') => h.calls (alive_any hR hD w'))
  have HFw := hid (fun (w' : World) (h : Held2 w nd A n c x y w') => h.calls (few_any x y w'))
  rw [hf] at HFw
  obtain ⟨r, hr⟩ : ∃ r, rightS nd l x = r := ⟨_, rfl⟩
  obtain ⟨D, hDD⟩ : ∃ D, prunedS nd l x dn = D := ⟨_, rfl⟩
  obtain ⟨m, hm⟩ : ∃ m, D.length = m := ⟨_, rfl⟩
  have hm2 : m ≤ 1000 := by rw [← hm, ← hDD]; have := prunedS_len nd l x dn; have h2 := hg.len; have h3 := hg.row.1; omega
  have H1 := hid (fun (w' : World) (h : Held2 w nd A n c x y w') => h.calls (hr ▸ hR nd A n c l x y w' (hg.on h.1) (hw.on h.1) (by omega) (by omega) (by omega) (by omega)))
  have H2 := hid (fun (w' : World) (h : Held2 w nd A n c x y w') => h.calls (hr ▸ refRight_spec nd A n c l x y w' (hg.on h.1) (hw.on h.1) (by omega) (by omega) (by omega) (by omega)))
  have H3 := hid (fun (w' : World) (h : Held2 w nd A n c x y w') => held2_bls h hm (hDD ▸ hD nd A n c l x y Ad n' c' dn w' (hg.on h.1) (hw.on h.1) (hd.on h.1) (by omega) (by omega) (by omega) (by omega)))
  have H4 := hid (fun (w' : World) (h : Held2 w nd A n c x y w') => held2_bls h hm (hDD ▸ refDown_spec nd A n c l x y Ad n' c' dn w' (hg.on h.1) (hw.on h.1) (hd.on h.1) (by omega) (by omega) (by omega) (by omega)))
  have HN := hid (fun w => num_any r w)
  have HSm := hid (fun (A1 A2 : Option Addr) (c1 c2 : Nat) (w' : World) (h1 : RBl w' w'.heap.size A1 m D) (h2 : RBl w' w'.heap.size A2 m D) => sameB_any A1 A2 m c1 c2 D w' h1 h2 (by omega))
  have s1 : (r == r) = true := by simp
  clear hR hD hg hw hd hf hr hDD hm hl4
  go_enter Try.func12, Try.ntmps12
  go_wp2_with (first
    | (go_at_call 32; (with_reducible refine (HA.out _ hS).mono ?_); rintro e' w1 ⟨rfl, h1⟩; obtain ⟨g0, g1⟩ := h1.g; obtain ⟨g2, g3, g4, g5, g6, g7, g8⟩ := h1.v)
    | (go_at_call 33; (with_reducible refine (HFw.out _ h1).mono ?_); rintro e' w2 ⟨rfl, h2⟩; obtain ⟨q0, q1⟩ := h2.g; obtain ⟨q2, q3, q4, q5, q6, q7, q8⟩ := h2.v))
  have h2d := h2.drew
  clear g0 g1 g2 g3 g4 g5 g6 g7 g8
  go_region_held3 (fun w' => w'.cell? ⟨w.heap.size, 0, none⟩ = some (.int .i64 nd) ∧ w'.cell? ⟨w.heap.size, 1, none⟩ = some (.slice A n c) ∧ w'.cell? ⟨w.heap.size + 1, 0, none⟩ = some (.int .i64 x.frm) ∧ w'.cell? ⟨w.heap.size + 1, 1, none⟩ = some (.int .i64 x.too) ∧ w'.cell? ⟨w.heap.size + 1, 2, none⟩ = some (.int .i64 x.bnd) ∧ w'.cell? ⟨w.heap.size + 1, 3, none⟩ = some (.slice y.av y.nv y.cv) ∧ w'.cell? ⟨w.heap.size + 1, 4, none⟩ = some (.slice y.an y.nn y.cn) ∧ w'.cell? ⟨w.heap.size + 1, 5, none⟩ = some (.slice y.al y.nl y.cl) ∧ w'.cell? ⟨w.heap.size + 1, 6, none⟩ = some (.slice y.ac y.nc y.cc))
    (first
      | go_keep
      | exact s7
      | exact s6
      | exact s5
      | exact s4
      | exact s3)
    (first
      | (go_at_call 35; (with_reducible refine (H1.out _ h2d).mono ?_); rintro e' w3 ⟨rfl, h3⟩; have s3 := h3.s)
      | (go_at_call 34; (with_reducible refine (HN.out _).mono ?_); rintro _ _ ⟨rfl, rfl⟩)
      | (go_at_call 36; (with_reducible refine (H2.out _ h3).mono ?_); rintro e' w4 ⟨rfl, h4⟩; have s4 := h4.s)
      | (go_at_call 38; (with_reducible refine (H3.out _ h4).mono ?_); rintro e' w5 ⟨A5, c5, rfl, r5, b5, h5⟩; have s5 := h5.s; have R5 := hid r5.1; clear r5)
      | (go_at_call 39; (with_reducible refine (H4.out _ h5).mono ?_); rintro e' w6 ⟨A6, c6, rfl, r6, b6, h6⟩; have s6 := h6.s; have R6 := hid r6.1; have R56 := hid (R5.out.on b6); clear r6)
      | (go_at_call 37; (with_reducible refine (HSm.out A5 A6 c5 c6 _ R56.out R6.out).mono ?_); rintro e' w7 ⟨rfl, b7⟩; have h7 := h6.next b7; have s7 := h7.s))
  go_wp2_with fail
  go_ret
  exact ⟨rfl, h7.1⟩
theorem pruneTells_any (hR : RightSpec 35) (hD : DownSpec 38) (nd : Int) (A : Option Addr) (n c : Nat) (l : List Lnk) (x : Wnt) (y : WSl) (Ad : Option Addr) (n' c' : Nat) (dn : List Bool) (w : World) (hr : RLnk w w.heap.size A n l) (hc : n ≤ c) (hA : A = none → n = 0 ∧ c = 0) (hw : WArg w x y) (hd : RBl w w.heap.size Ad n' dn) (hc' : n' ≤ c') (hA' : Ad = none → n' = 0 ∧ c' = 0)
    (h1 : -9223372036854775808 ≤ nd ∧ nd ≤ 9223372036854775807) :
    Calls Try.prog 12 #[.agg #[.int .i64 nd, .slice A n c], .agg #[.int .i64 x.frm, .int .i64 x.too, .int .i64 x.bnd, .slice y.av y.nv y.cv, .slice y.an y.nn y.cn, .slice y.al y.nl y.cl, .slice y.ac y.nc y.cc], .slice Ad n' c'] w fun e w' => e = .returned (.bool true) ∧ Below w.heap.size w w' := by
  by_cases h : 130 < n ∨ fewB y = false ∨ 200 < n'
  · exact pruneTells_out hR hD nd A n c x y Ad n' c' w h
  · have hf : fewB y = true := by
      cases hf : fewB y with
      | true => rfl
      | false => exact absurd (.inr (.inl hf)) h
    exact pruneTells_in hR hD nd A n c l x y Ad n' c' dn w ⟨hr, by omega, hc, hA, h1.1, h1.2⟩ hw ⟨hd, by omega, hc', hA'⟩ hf
end Go.Proofs.Ytljgoffolbplfaa
