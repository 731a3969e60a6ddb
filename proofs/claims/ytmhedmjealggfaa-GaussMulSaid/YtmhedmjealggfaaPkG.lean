import Derived.Test.YtmhedmjealggfaaPkF
import Derived.Deep.RegionHeld3
import Derived.Deep.RegionWith
import Derived.Deep.DeepCutAuto
import Derived.Outline
namespace Go.Proofs.Ytmhedmjealggfaa
open Go.RowKit
set_option maxHeartbeats 1600000
set_option maxRecDepth 100000

theorem tells2_long (hB : BytesSpec 11) (hR : ReadSpec 12) (v : Value) (hv : ∃ a b p q r : Value, v = .agg #[a, b, p, q, r]) (A : Option Addr) (n c : Nat) (h : 100 < n) (w : World) :
    Calls Try.prog 3 #[v, .slice A n c] w fun e w' => e = .returned (.bool true) ∧ Below w.heap.size w w' := by
  have HA := hid (fun w => alive2 hB hR w)
  clear hB hR
  obtain ⟨a, b, p, q, r, rfl⟩ := hv
  have t1 : decide ((100 : Int) < n) = true := by simp; omega
  go_enter Try.func3, Try.ntmps3
  go_wp2_with (go_at_call 10; (with_reducible refine (HA.out _).mono ?_); rintro e' w1 ⟨rfl, hb1⟩)
  go_ret
  exact ⟨rfl, (((Below.refl _ _).alloc (Nat.le_refl _) _).trans (hb1.mono (by simp)))⟩

theorem tup_at {w0 w1 : World} {g : Nat} {a b p q r : Value} (h : Below w0.heap.size w0 w1) (hg : g < w0.heap.size) (c0 : w0.cell? ⟨g, 0, none⟩ = some a) (c1 : w0.cell? ⟨g, 1, none⟩ = some b) (c2 : w0.cell? ⟨g, 2, none⟩ = some p) (c3 : w0.cell? ⟨g, 3, none⟩ = some q) (c4 : w0.cell? ⟨g, 4, none⟩ = some r) :
    w1.cell? ⟨g, 0, none⟩ = some a ∧ w1.cell? ⟨g, 1, none⟩ = some b ∧ w1.cell? ⟨g, 2, none⟩ = some p ∧ w1.cell? ⟨g, 3, none⟩ = some q ∧ w1.cell? ⟨g, 4, none⟩ = some r :=
  ⟨(h.cell (p := ⟨g, _, none⟩) hg).trans c0, (h.cell (p := ⟨g, _, none⟩) hg).trans c1, (h.cell (p := ⟨g, _, none⟩) hg).trans c2, (h.cell (p := ⟨g, _, none⟩) hg).trans c3, (h.cell (p := ⟨g, _, none⟩) hg).trans c4⟩

theorem s24 : Try.prog.stoodInHeld 24 = false := by kernel_rfl
theorem g24 : Try.prog.eqGuardType Try.prog.depth 24 = false := by kernel_rfl
theorem ne24 (e f : Tup) (W : World) : (binOp .neq 24 (.agg #[.int .u32 e.src, .int .u32 e.dst, .int .i64 e.pro, .int .i64 e.sp, .int .i64 e.dp]) (.agg #[.int .u32 f.src, .int .u32 f.dst, .int .i64 f.pro, .int .i64 f.sp, .int .i64 f.dp])).run Try.prog W = .ok (.bool (!decide (e = f))) W := by
  rw [run_neq_struct, run_equalIn_agg W 9999 24 _ _ (by simp [Program.fieldsOf, Try.underlying24]) s24]
  simp [Program.fieldsOf, Try.underlying24, Op.eqFields, part, go_sem]
  obtain ⟨a, b, c, d, g⟩ := e
  obtain ⟨a', b', c', d', g'⟩ := f
  by_cases h1 : a = a' <;> by_cases h2 : b = b' <;> by_cases h3 : c = c' <;> by_cases h4 : d = d' <;> by_cases h5 : g = g' <;> simp [h1, h2, h3, h4, h5]
theorem eq24 (e f : Tup) (W : World) : (binOp .eql 24 (.agg #[.int .u32 e.src, .int .u32 e.dst, .int .i64 e.pro, .int .i64 e.sp, .int .i64 e.dp]) (.agg #[.int .u32 f.src, .int .u32 f.dst, .int .i64 f.pro, .int .i64 f.sp, .int .i64 f.dp])).run Try.prog W = .ok (.bool (decide (e = f))) W := by
  rw [run_eql_struct, run_equalIn_agg W 9999 24 _ _ (by simp [Program.fieldsOf, Try.underlying24]) s24]
  simp [Program.fieldsOf, Try.underlying24, Op.eqFields, part, go_sem]
  obtain ⟨a, b, c, d, g⟩ := e
  obtain ⟨a', b', c', d', g'⟩ := f
  by_cases h1 : a = a' <;> by_cases h2 : b = b' <;> by_cases h3 : c = c' <;> by_cases h4 : d = d' <;> by_cases h5 : g = g' <;> simp [h1, h2, h3, h4, h5]

theorem bel_step {w a b : World} (h : Below a.heap.size a b) (k : Below w.heap.size w a) : Below w.heap.size w b := k.trans (h.mono k.size)
theorem tells2_in (hB : BytesSpec 11) (hR : ReadSpec 12) (t : Tup) (hf : t.fits) (A : Option Addr) (n c : Nat) (bs : List UInt8) (w : World) (hr : RByt w w.heap.size A n bs) (hA : A = none → n = 0 ∧ c = 0) (h : n ≤ 100) :
    Calls Try.prog 3 #[.agg #[.int .u32 t.src, .int .u32 t.dst, .int .i64 t.pro, .int .i64 t.sp, .int .i64 t.dp], .slice A n c] w fun e w' => e = .returned (.bool true) ∧ Below w.heap.size w w' := by
  have HA := hid (fun w => alive2 hB hR w)
  have HB := hid hB; have HR := hid hR; have HN := hid hA; have HI := hid hr; have HF := hid hf
  obtain ⟨i5, hi, hz0, hz1, hz2⟩ := info_parts Try.info5
  have Ai := hid hi; have Az0 := hid hz0; have Az1 := hid hz1; have Az2 := hid hz2
  clear hi hz0 hz1 hz2 hB hR hA hr hf
  have t1 : decide ((100 : Int) < n) = false := by simp; omega
  obtain ⟨w0, hW⟩ : ∃ w0, w0 = w.alloc (.cells #[.int .u32 t.src, .int .u32 t.dst, .int .i64 t.pro, .int .i64 t.sp, .int .i64 t.dp] 24) := ⟨_, rfl⟩
  have hb0 : Below w.heap.size w w0 := by rw [hW]; exact (Below.refl _ _).alloc (Nat.le_refl _) _
  have hs0 : w.heap.size < w0.heap.size := by rw [hW]; simp
  have c0 : w0.cell? ⟨w.heap.size, 0, none⟩ = some (.int .u32 t.src) := by rw [hW]; simp [go_sem]
  have c1 : w0.cell? ⟨w.heap.size, 1, none⟩ = some (.int .u32 t.dst) := by rw [hW]; simp [go_sem]
  have c2 : w0.cell? ⟨w.heap.size, 2, none⟩ = some (.int .i64 t.pro) := by rw [hW]; simp [go_sem]
  have c3 : w0.cell? ⟨w.heap.size, 3, none⟩ = some (.int .i64 t.sp) := by rw [hW]; simp [go_sem]
  have c4 : w0.cell? ⟨w.heap.size, 4, none⟩ = some (.int .i64 t.dp) := by rw [hW]; simp [go_sem]
  have HW := hid hW
  clear hW
  go_enter Try.func3, Try.ntmps3
  go_wp2_with fail
  rw [← HW.out]
  refine (HA.out _).mono ?_
  rintro e' w1 ⟨rfl, hb1⟩
  have T1 := tup_at hb1 hs0 c0 c1 c2 c3 c4
  clear c0 c1 c2 c3 c4
  obtain ⟨d0, d1, d2, d3, d4⟩ := T1
  have hs1 : w.heap.size < w1.heap.size := by have := hb1.size; omega
  go_wp2_with fail
  refine (HB.out _ HF.out _).mono ?_
  rintro e' w2 ⟨Ax, cx, rfl, hcx, hx, hb2⟩
  have HCX := hid hcx
  clear hcx
  obtain ⟨e0, e1, e2, e3, e4⟩ := tup_at hb2 hs1 d0 d1 d2 d3 d4
  clear d0 d1 d2 d3 d4
  have hb12 := hb1.trans (hb2.mono hb1.size)
  have hb02 := hb0.trans (hb12.mono (by omega))
  have HX2 := hid hx
  have HI2 := hid ((HI.out.below hb02).more hb02.size)
  have hs2 : w.heap.size < w2.heap.size := by have := hb2.size; omega
  clear hx
  go_wp2_with (at_builtin; refine wpList_copy rfl (.const (.slice none 0 0)) (.tmp 25) 25 rfl w2.heap.size 5 i5 (.int .u8 0) 1 1 Try.underlying25 Ai.out Az0.out Az1.out Az2.out rfl (by decide) rfl A n c (bcells bs) rfl HN.out (by rw [bcells_len, HI2.out.1]; omega) (byt_src' HI2.out) (bcells_one _) (by unfold maxLen; omega) (by omega) (Nat.le_refl _) ?_; intro v3 w3 hown3 hb3)
  obtain ⟨A3, c3, rfl, hc3, hr3⟩ := own_byt_cap hown3
  obtain ⟨f0, f1, f2, f3, f4⟩ := tup_at hb3 hs2 e0 e1 e2 e3 e4
  clear e0 e1 e2 e3 e4 hown3
  have hs3 : w.heap.size < w3.heap.size := by have := hb3.size; omega
  refine (HR.out _ _ _ _ _ hc3 hr3).mono ?_
  rintro e' w4 ⟨rfl, hb4⟩
  obtain ⟨g0, g1, g2, g3, g4⟩ := tup_at hb4 hs3 f0 f1 f2 f3 f4
  clear f0 f1 f2 f3 f4 hr3 hc3
  go_wp2_with fail
  obtain ⟨w5, hW5⟩ : ∃ w5, w5 = w4.alloc (.cells #[.int .u32 (readT bs).src, .int .u32 (readT bs).dst, .int .i64 (readT bs).pro, .int .i64 (readT bs).sp, .int .i64 (readT bs).dp] 24) := ⟨_, rfl⟩
  rw [← hW5]
  have hb5 : Below w4.heap.size w4 w5 := by rw [hW5]; exact (Below.refl _ _).alloc (Nat.le_refl _) _
  have hs4 : w.heap.size < w4.heap.size := by have := hb4.size; omega
  have hs5 : w4.heap.size < w5.heap.size := by rw [hW5]; simp
  obtain ⟨h0, h1, h2, h3, h4⟩ := tup_at hb5 hs4 g0 g1 g2 g3 g4
  obtain ⟨y0, y1, y2, y3, y4⟩ : w5.cell? ⟨w4.heap.size, 0, none⟩ = some (.int .u32 (readT bs).src) ∧ w5.cell? ⟨w4.heap.size, 1, none⟩ = some (.int .u32 (readT bs).dst) ∧ w5.cell? ⟨w4.heap.size, 2, none⟩ = some (.int .i64 (readT bs).pro) ∧ w5.cell? ⟨w4.heap.size, 3, none⟩ = some (.int .i64 (readT bs).sp) ∧ w5.cell? ⟨w4.heap.size, 4, none⟩ = some (.int .i64 (readT bs).dp) := by
    rw [hW5]; simp [go_sem]
  have hb25 := (hb3.trans (hb4.mono hb3.size)).trans (hb5.mono (by have := hb3.size; have := hb4.size; omega))
  have hb05 := hb02.trans (hb25.mono hb02.size)
  have HX5 := hid ((HX2.out.below hb25).more hb25.size)
  have HI5 := hid ((HI.out.below hb05).more hb05.size)
  clear g0 g1 g2 g3 g4 hW5 hb5
  refine (getTuple_all A n c bs _ HI5.out).mono ?_
  rintro e' w6 ⟨rfl, hb6⟩
  obtain ⟨k0, k1, k2, k3, k4⟩ := tup_at hb6 (show w.heap.size < w5.heap.size by omega) h0 h1 h2 h3 h4
  obtain ⟨z0, z1, z2, z3, z4⟩ := tup_at hb6 hs5 y0 y1 y2 y3 y4
  clear h0 h1 h2 h3 h4 y0 y1 y2 y3 y4
  have hs6 := hb6.size
  obtain ⟨w7, hW7⟩ : ∃ w7, w7 = w6.alloc (.cells #[.int .u32 (readT bs).src, .int .u32 (readT bs).dst, .int .i64 (readT bs).pro, .int .i64 (readT bs).sp, .int .i64 (readT bs).dp] 24) := ⟨_, rfl⟩
  have HW7 := hid hW7
  have hb7 : Below w6.heap.size w6 w7 := by rw [hW7]; exact (Below.refl _ _).alloc (Nat.le_refl _) _
  have hs7 : w6.heap.size < w7.heap.size := by rw [hW7]; simp
  obtain ⟨q0, q1, q2, q3, q4⟩ : w7.cell? ⟨w6.heap.size, 0, none⟩ = some (.int .u32 (readT bs).src) ∧ w7.cell? ⟨w6.heap.size, 1, none⟩ = some (.int .u32 (readT bs).dst) ∧ w7.cell? ⟨w6.heap.size, 2, none⟩ = some (.int .i64 (readT bs).pro) ∧ w7.cell? ⟨w6.heap.size, 3, none⟩ = some (.int .i64 (readT bs).sp) ∧ w7.cell? ⟨w6.heap.size, 4, none⟩ = some (.int .i64 (readT bs).dp) := by
    rw [hW7]; simp [go_sem]
  obtain ⟨r0, r1, r2, r3, r4⟩ := tup_at hb7 (show w.heap.size < w6.heap.size by omega) k0 k1 k2 k3 k4
  obtain ⟨p0, p1, p2, p3, p4⟩ := tup_at hb7 (show w4.heap.size < w6.heap.size by omega) z0 z1 z2 z3 z4
  have hb57 := hb6.trans (hb7.mono hs6)
  have HX7 := hid ((HX5.out.below hb57).more hb57.size)
  have hb07 := hb05.trans (hb57.mono hb05.size)
  clear k0 k1 k2 k3 k4 z0 z1 z2 z3 z4 hW7 hb7
  have allS : ∀ w', Below w7.heap.size w7 w' → Below w7.heap.size w7 w' ∧ w'.cell? ⟨w.heap.size, 0, none⟩ = some (.int .u32 t.src) ∧ w'.cell? ⟨w.heap.size, 1, none⟩ = some (.int .u32 t.dst) ∧ w'.cell? ⟨w.heap.size, 2, none⟩ = some (.int .i64 t.pro) ∧ w'.cell? ⟨w.heap.size, 3, none⟩ = some (.int .i64 t.sp) ∧ w'.cell? ⟨w.heap.size, 4, none⟩ = some (.int .i64 t.dp) ∧ w'.cell? ⟨w4.heap.size, 0, none⟩ = some (.int .u32 (readT bs).src) ∧ w'.cell? ⟨w4.heap.size, 1, none⟩ = some (.int .u32 (readT bs).dst) ∧ w'.cell? ⟨w4.heap.size, 2, none⟩ = some (.int .i64 (readT bs).pro) ∧ w'.cell? ⟨w4.heap.size, 3, none⟩ = some (.int .i64 (readT bs).sp) ∧ w'.cell? ⟨w4.heap.size, 4, none⟩ = some (.int .i64 (readT bs).dp) ∧ w'.cell? ⟨w6.heap.size, 0, none⟩ = some (.int .u32 (readT bs).src) ∧ w'.cell? ⟨w6.heap.size, 1, none⟩ = some (.int .u32 (readT bs).dst) ∧ w'.cell? ⟨w6.heap.size, 2, none⟩ = some (.int .i64 (readT bs).pro) ∧ w'.cell? ⟨w6.heap.size, 3, none⟩ = some (.int .i64 (readT bs).sp) ∧ w'.cell? ⟨w6.heap.size, 4, none⟩ = some (.int .i64 (readT bs).dp) ∧ (convert 25 9 (.slice Ax t.bytes.length cx)).run Try.prog w' = .ok (.string ⟨t.bytes.toArray⟩) w' := by
    intro w' hb
    obtain ⟨a0, a1, a2, a3, a4⟩ := tup_at hb (show w.heap.size < w7.heap.size by omega) r0 r1 r2 r3 r4
    obtain ⟨b0, b1, b2, b3, b4⟩ := tup_at hb (show w4.heap.size < w7.heap.size by omega) p0 p1 p2 p3 p4
    obtain ⟨d0, d1, d2, d3, d4⟩ := tup_at hb hs7 q0 q1 q2 q3 q4
    exact ⟨hb, a0, a1, a2, a3, a4, b0, b1, b2, b3, b4, d0, d1, d2, d3, d4, conv_str (HX7.out.below hb)⟩
  have AllS := hid allS
  have n24 := ne24 (readT bs) (readT bs)
  have g24' := g24
  have kx := conv_str (c := cx) HX7.out
  have hbr := Below.refl w7.heap.size w7
  clear allS
  go_upto_region 7 with fail
  rw [← HW7.out]
  go_cut [51] (fun s wx => s = .bool false ∧ Below w7.heap.size w7 wx)
  case first =>
    obtain ⟨_, x0, x1, x2, x3, x4, x5, x6, x7, x8, x9, x10, x11, x12, x13, x14, x15⟩ := AllS.out _ hbr
    have kd := conv_str (w := w7.drew) (c := cx) HX7.out
    have CX := hid (fun (W : World) (h : RByt W W.heap.size Ax t.bytes.length t.bytes) => conv_str (c := cx) h)
    go_region_with (first
        | (go_at_call 14; refine (putTuple_all t HF.out _).mono ?_; rintro e' w8 ⟨Ay, cy, rfl, _, hy, hb8⟩; have hb78 := bel_step hb8 hbr.drew; have ky := conv_str (c := cy) hy; have ky1 := conv_str (w := w8.drew) (c := cy) hy; obtain ⟨_, x0', x1', x2', x3', x4', x5', x6', x7', x8', x9', x10', x11', x12', x13', x14', x15'⟩ := AllS.out _ (bel_step hb8 hbr.drew); have kd' := (AllS.out w8.drew ((bel_step hb8 hbr.drew).drew)).2.2.2.2.2.2.2.2.2.2.2.2.2.2.2.2)
        | (go_at_call 15; refine (num2_any _ _).mono ?_; rintro e' w9 ⟨rfl, rfl⟩))
    all_goals (go_wp2_with fail; go_meet; exact ⟨rfl, by repeat (first | exact hb78 | apply Below.drew)⟩)
  case rest =>
    obtain ⟨rfl, hcb⟩ := hcut
    have hbc := hb07.trans (hcb.mono hb07.size)
    have HXc := hid ((HX7.out.below hcb).more hcb.size)
    obtain ⟨u0, u1, u2, u3, u4⟩ := tup_at hcb (show w.heap.size < w7.heap.size by omega) r0 r1 r2 r3 r4
    clear r0 r1 r2 r3 r4 p0 p1 p2 p3 p4 q0 q1 q2 q3 q4 kx n24
    cases hk : t.ok with
    | true =>
      have HG := hid (read_ok HR.out t HF.out hk Ax t.bytes.length cx _ HCX.out HXc.out)
      have tl : ((t.bytes.length : Int) == 0) = false := by rw [bytes_len hk]; rfl
      have n24 := eq24 t t
      clear hk
      go_wp2_with fail
      refine HG.out.mono ?_
      rintro e' w8 ⟨rfl, hb8⟩
      obtain ⟨v0, v1, v2, v3, v4⟩ := tup_at hb8 (show w.heap.size < wc.heap.size by have := hcb.size; omega) u0 u1 u2 u3 u4
      clear u0 u1 u2 u3 u4
      have hb08 := hbc.trans (hb8.mono hbc.size)
      have hs8 : w.heap.size < w8.heap.size := by have := hb8.size; have := hcb.size; omega
      go_wp2_with (go_at_call 15; refine (num2_any _ _).mono ?_; rintro e' w9 ⟨rfl, rfl⟩)
      go_ret
      exact ⟨rfl, by repeat (first | exact hb08 | exact Below.alloc hb08 hb08.size _ | apply Below.drew)⟩
    | false =>
      have HG := hid (HR.out Ax t.bytes.length cx t.bytes _ HCX.out HXc.out)
      have tl : ((t.bytes.length : Int) == 0) = true := by rw [bytes_no hk]; rfl
      clear hk
      go_wp2_with fail
      refine HG.out.mono ?_
      rintro e' w8 ⟨rfl, hb8⟩
      go_wp2_with fail
      go_ret
      have hb08 := hbc.trans (hb8.mono hbc.size)
      exact ⟨rfl, by repeat (first | exact hb08 | exact Below.alloc hb08 hb08.size _ | apply Below.drew)⟩
theorem tells2_any (hB : BytesSpec 11) (hR : ReadSpec 12) (t : Tup) (hf : t.fits) (A : Option Addr) (n c : Nat) (bs : List UInt8) (w : World) (hr : RByt w w.heap.size A n bs) (hA : A = none → n = 0 ∧ c = 0) :
    Calls Try.prog 3 #[.agg #[.int .u32 t.src, .int .u32 t.dst, .int .i64 t.pro, .int .i64 t.sp, .int .i64 t.dp], .slice A n c] w fun e w' => e = .returned (.bool true) ∧ Below w.heap.size w w' := by
  by_cases h : 100 < n
  · exact tells2_long hB hR _ ⟨_, _, _, _, _, rfl⟩ A n c h w
  · exact tells2_in hB hR t hf A n c bs w hr hA (by omega)
end Go.Proofs.Ytmhedmjealggfaa
