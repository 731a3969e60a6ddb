/- SpfTells. -/
import Derived.Test.YtljgoffolbplfaaSpF
namespace Go.Proofs.Ytljgoffolbplfaa
open Go.RowKit
set_option maxHeartbeats 6400000
set_option maxRecDepth 100000
theorem bt {a b c : World} (h1 : Below a.heap.size a b) (h2 : Below b.heap.size b c) : Below a.heap.size a c := h1.trans (h2.mono h1.size)
theorem fromS_len (nd : Int) (l : List Lnk) (dn : List Bool) (s : Int) : (fromS nd l dn s).length ≤ 40 := by
  unfold fromS
  split
  · rename_i h
    obtain ⟨N, rfl⟩ := Int.eq_ofNat_of_zero_le (show 0 ≤ nd by omega)
    obtain ⟨S, rfl⟩ := Int.eq_ofNat_of_zero_le h.2.1
    have hg := gok_of h.1
    rw [Int.toNat_natCast, Int.toNat_natCast, (dist_ok (dn := dn) hg (show S < N by omega)).len]
    exact hg.2.2.1
  · simp
theorem nextS_len (nd : Int) (l : List Lnk) (dn : List Bool) (to : List Int) (s : Int) : (nextS nd l dn to s).length ≤ 2 * l.length := by
  unfold nextS
  split
  · exact Nat.le_trans (List.length_filter_le _ _) (outS_len _ _ _)
  · simp
/-- A call that makes a row of numbers, beside a graph's box. -/
theorem held_ints {w : World} {nd : Int} {A : Option Addr} {n c : Nat} {f : Nat} {args : Array Value} {L : List Int} {m : Nat} {w' : World} (h : Held w nd A n c w') (hL : L.length = m) (hc : Calls Try.prog f args w' (IntAns L w')) :
    Calls Try.prog f args w' fun e w'' => ∃ A' c', e = .returned (.slice A' m c') ∧ (RInt w'' w''.heap.size A' m L ∧ m ≤ c' ∧ (A' = none → m = 0 ∧ c' = 0)) ∧ Below w'.heap.size w' w'' ∧ Held w nd A n c w'' :=
  (ints_out hL hc).mono fun _ _ ⟨A', c', h1, h2, h3⟩ => ⟨A', c', h1, h2, h3, h.next h3⟩
theorem spfTells_out (hF : FromSpec 27) (nd : Int) (A : Option Addr) (n c : Nat) (Ad : Option Addr) (n' c' : Nat) (node to : Int) (w : World) (h : 130 < n ∨ 200 < n') :
    Calls Try.prog 7 #[.agg #[.int .i64 nd, .slice A n c], .slice Ad n' c', .int .i64 node, .int .i64 to] w fun e w' => e = .returned (.bool true) ∧ Below w.heap.size w w' := by
  have hS := Held.start w nd A n c
  have HA := hid (fun (w' : World) (h : Held w nd A n c w') => h.calls (alive_any hF w'))
  by_cases h1 : 130 < n
  · have t1 : decide ((130 : Int) < (n : Int)) = true := by simp; omega
    clear h h1 hF
    go_enter Try.func7, Try.ntmps7
    go_wp2_with (go_at_call 25; (with_reducible refine (HA.out _ hS).mono ?_); rintro e' w1 ⟨rfl, h1⟩; obtain ⟨g0, g1⟩ := h1.cells)
    go_ret
    exact ⟨rfl, h1.1⟩
  · have t1 : decide ((130 : Int) < (n : Int)) = false := by simp; omega
    have t2 : decide ((200 : Int) < (n' : Int)) = true := by simp; omega
    clear h h1 hF
    go_enter Try.func7, Try.ntmps7
    go_wp2_with (go_at_call 25; (with_reducible refine (HA.out _ hS).mono ?_); rintro e' w1 ⟨rfl, h1⟩; obtain ⟨g0, g1⟩ := h1.cells)
    go_ret
    exact ⟨rfl, h1.1⟩
theorem spfTells_in (hF : FromSpec 27) (hT : FromSpec 28) (hX : NextSpec 29) (nd : Int) (A : Option Addr) (n c : Nat) (l : List Lnk) (Ad : Option Addr) (n' c' : Nat) (dn : List Bool) (node to : Int) (w : World) (hg : GArg w nd A n c l) (hd : DArg w Ad n' c' dn)
    (hn1 : -9223372036854775808 ≤ node) (hn2 : node ≤ 9223372036854775807) (ht1 : -9223372036854775808 ≤ to) (ht2 : to ≤ 9223372036854775807) :
    Calls Try.prog 7 #[.agg #[.int .i64 nd, .slice A n c], .slice Ad n' c', .int .i64 node, .int .i64 to] w fun e w' => e = .returned (.bool true) ∧ Below w.heap.size w w' := by
  have hS := Held.start w nd A n c
  have t1 : decide ((130 : Int) < (n : Int)) = false := by have := hg.len; simp; omega
  have t2 : decide ((200 : Int) < (n' : Int)) = false := by have := hd.len; simp; omega
  have HA := hid (fun (w' : World) (h : Held w nd A n c w') => h.calls (alive_any hF w'))
  obtain ⟨X, hXX⟩ : ∃ X, fromS nd l dn to = X := ⟨_, rfl⟩
  obtain ⟨mx, hmx⟩ : ∃ mx, X.length = mx := ⟨_, rfl⟩
  have hmx2 : mx ≤ 40 := by rw [← hmx, ← hXX]; exact fromS_len _ _ _ _
  have hsm : ∀ x ∈ X, -1099511627776 ≤ x ∧ x ≤ 1099511627776 := by
    intro x hx; rw [← hXX] at hx; have := fromS_mem x hx; omega
  obtain ⟨D, hD⟩ : ∃ D, fromS nd l dn node = D := ⟨_, rfl⟩
  obtain ⟨md, hmd⟩ : ∃ md, D.length = md := ⟨_, rfl⟩
  have hmd2 : md ≤ 40 := by rw [← hmd, ← hD]; exact fromS_len _ _ _ _
  obtain ⟨Y, hY⟩ : ∃ Y, nextS nd l dn X node = Y := ⟨_, rfl⟩
  obtain ⟨my, hmy⟩ : ∃ my, Y.length = my := ⟨_, rfl⟩
  have hmy2 : my ≤ 1000 := by rw [← hmy, ← hY]; have := nextS_len nd l dn X node; have h2 := hg.len; have h3 := hg.row.1; omega
  have HX0 := hid (fun (w' : World) (h : Held w nd A n c w') => held_ints h hmx (hXX ▸ refFrom_spec nd A n c l Ad n' c' dn to w' (hg.on h.1) (hd.on h.1) ht1 ht2))
  have HF := hid (fun (w' : World) (h : Held w nd A n c w') => held_ints h hmd (hD ▸ hF nd A n c l Ad n' c' dn node w' (hg.on h.1) (hd.on h.1) hn1 hn2))
  have HT := hid (fun (w' : World) (h : Held w nd A n c w') => held_ints h hmd (hD ▸ hT nd A n c l Ad n' c' dn node w' (hg.on h.1) (hd.on h.1) hn1 hn2))
  have HR := hid (fun (w' : World) (h : Held w nd A n c w') => held_ints h hmd (hD ▸ refFrom_spec nd A n c l Ad n' c' dn node w' (hg.on h.1) (hd.on h.1) hn1 hn2))
  have HN := hid (fun (Ax : Option Addr) (cx : Nat) (w' : World) (h : Held w nd A n c w') (hx : TArg w' Ax mx cx X) => held_ints h hmy (hY ▸ hX nd A n c l Ad n' c' dn Ax mx cx X node w' (hg.on h.1) (hd.on h.1) hx hn1 hn2))
  have HN' := hid (fun (Ax : Option Addr) (cx : Nat) (w' : World) (h : Held w nd A n c w') (hx : TArg w' Ax mx cx X) => held_ints h hmy (hY ▸ refNext_spec nd A n c l Ad n' c' dn Ax mx cx X node w' (hg.on h.1) (hd.on h.1) hx hn1 hn2))
  have HSd := hid (fun (A1 A2 : Option Addr) (c1 c2 : Nat) (w' : World) (h1 : RInt w' w'.heap.size A1 md D) (h2 : RInt w' w'.heap.size A2 md D) => same_any A1 A2 md c1 c2 D w' h1 h2 (by omega))
  have HSy := hid (fun (A1 A2 : Option Addr) (c1 c2 : Nat) (w' : World) (h1 : RInt w' w'.heap.size A1 my Y) (h2 : RInt w' w'.heap.size A2 my Y) => same_any A1 A2 my c1 c2 Y w' h1 h2 (by omega))
  have Hsm := hid hsm
  clear hF hT hX hg hd hXX hmx hsm hD hmd hY hmy
  go_enter Try.func7, Try.ntmps7
  go_wp2_with (first
    | (go_at_call 25; (with_reducible refine (HA.out _ hS).mono ?_); rintro e' w1 ⟨rfl, h1⟩; obtain ⟨g0, g1⟩ := h1.cells)
    | (go_at_call 26; (with_reducible refine (HX0.out _ h1).mono ?_); rintro e' w2 ⟨Ax, cx, rfl, hx2, hb2, h2⟩; obtain ⟨g2, g3⟩ := h2.cells; have HX2 := hid (TArg.mk hx2.1 (by omega) hx2.2.1 hx2.2.2 Hsm.out); clear hx2))
  have h2d := h2.drew
  have HX2d := hid (HX2.out.on ((Below.refl w2.heap.size w2).drew))
  clear g0 g1
  go_region_held3 (fun w' => w'.cell? ⟨w.heap.size, 0, none⟩ = some (.int .i64 nd) ∧ w'.cell? ⟨w.heap.size, 1, none⟩ = some (.slice A n c))
    (first
      | go_keep
      | exact s11
      | exact s10
      | exact s9
      | exact s8
      | exact s7
      | exact s6
      | exact s5
      | exact s4
      | exact s3)
    (first
      | (go_at_call 27; (with_reducible refine (HF.out _ h2d).mono ?_); rintro e' w3 ⟨A3, c3, rfl, r3, b3, h3⟩; have s3 := h3.cells; have R3 := hid r3.1; clear r3)
      | (go_at_call 26; (with_reducible refine (HR.out _ h3).mono ?_); rintro e' w4 ⟨A4, c4, rfl, r4, b4, h4⟩; have s4 := h4.cells; have R4 := hid r4.1; clear r4)
      | (go_at_call 20; (with_reducible refine (HSd.out A3 A4 c3 c4 _ (R3.out.on b4) R4.out).mono ?_); rintro e' w5 ⟨rfl, b5⟩; have h5 := h4.next b5; have s5 := h5.cells)
      | (go_at_call 28; (with_reducible refine (HT.out _ h5).mono ?_); rintro e' w6 ⟨A6, c6, rfl, r6, b6, h6⟩; have s6 := h6.cells; have R6 := hid r6.1; clear r6)
      | (go_at_call 26; (with_reducible refine (HR.out _ h6).mono ?_); rintro e' w7 ⟨A7, c7, rfl, r7, b7, h7⟩; have s7 := h7.cells; have R7 := hid r7.1; clear r7)
      | (go_at_call 20; (with_reducible refine (HSd.out A6 A7 c6 c7 _ (R6.out.on b7) R7.out).mono ?_); rintro e' w8 ⟨rfl, b8⟩; have h8 := h7.next b8; have s8 := h8.cells; have b28 := bt (bt (bt (bt (bt b3 b4) b5) b6) b7) b8)
      | (go_at_call 29; (with_reducible refine (HN.out Ax cx _ h8 (HX2d.out.on b28)).mono ?_); rintro e' w9 ⟨A9, c9, rfl, r9, b9, h9⟩; have s9 := h9.cells; have R9 := hid r9.1; clear r9)
      | (go_at_call 30; (with_reducible refine (HN'.out Ax cx _ h9 (HX2d.out.on (bt b28 b9))).mono ?_); rintro e' w10 ⟨A10, c10, rfl, r10, b10, h10⟩; have s10 := h10.cells; have R10 := hid r10.1; clear r10)
      | (go_at_call 20; (with_reducible refine (HSy.out A9 A10 c9 c10 _ (R9.out.on b10) R10.out).mono ?_); rintro e' w11 ⟨rfl, b11⟩; have h11 := h10.next b11; have s11 := h11.cells))
  go_wp2_with fail
  go_ret
  exact ⟨rfl, h11.1⟩
theorem spfTells_any (hF : FromSpec 27) (hT : FromSpec 28) (hX : NextSpec 29) (nd : Int) (A : Option Addr) (n c : Nat) (l : List Lnk) (Ad : Option Addr) (n' c' : Nat) (dn : List Bool) (node to : Int) (w : World) (hr : RLnk w w.heap.size A n l) (hc : n ≤ c) (hA : A = none → n = 0 ∧ c = 0) (hd : RBl w w.heap.size Ad n' dn) (hc' : n' ≤ c') (hA' : Ad = none → n' = 0 ∧ c' = 0)
    (h1 : -9223372036854775808 ≤ nd ∧ nd ≤ 9223372036854775807) (h2 : -9223372036854775808 ≤ node ∧ node ≤ 9223372036854775807) (h3 : -9223372036854775808 ≤ to ∧ to ≤ 9223372036854775807) :
    Calls Try.prog 7 #[.agg #[.int .i64 nd, .slice A n c], .slice Ad n' c', .int .i64 node, .int .i64 to] w fun e w' => e = .returned (.bool true) ∧ Below w.heap.size w w' := by
  by_cases h : 130 < n ∨ 200 < n'
  · exact spfTells_out hF nd A n c Ad n' c' node to w h
  · exact spfTells_in hF hT hX nd A n c l Ad n' c' dn node to w ⟨hr, by omega, hc, hA, h1.1, h1.2⟩ ⟨hd, by omega, hc', hA'⟩ h2.1 h2.2 h3.1 h3.2
end Go.Proofs.Ytljgoffolbplfaa
