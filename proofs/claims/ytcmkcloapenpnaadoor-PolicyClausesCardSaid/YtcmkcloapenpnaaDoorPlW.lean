/- PolicyClauses. -/
import Derived.Test.YtcmkcloapenpnaaDoorPlV
import Derived.Deep.DeepCutAuto
namespace Go.Proofs.YtcmkcloapenpnaaDoor
open Go.RowKit
set_option maxHeartbeats 12800000
set_option maxRecDepth 100000
def hdA (ks : List Nat) (X : Nat) : List UInt8 := hdX ++ (ks.filter (incB X)).flatMap txK
def hdB (i X : Nat) : List UInt8 := (hdX ++ [11, 12].flatMap txK) ++ ((List.range (min i 11)).filter (bitB X)).flatMap txK
theorem cwK_len : ∀ k, k < 13 → (cwK k).length ≤ 20 := by decide
theorem hdA_len {ks : List Nat} (X : Nat) (h : ∀ k ∈ ks, k < 13) : (hdA ks X).length ≤ 8 + ks.length * 20 := by
  have h1 := flat_len (ks := ks.filter (incB X)) fun k hk => h k (List.mem_filter.1 hk).1
  have h2 := List.length_filter_le (incB X) ks
  have e : hdX.length = 8 := rfl
  unfold hdA
  rw [List.length_append]
  have := Nat.mul_le_mul_right 20 h2
  omega
theorem hdB_len (X i : Nat) : (hdB i X).length ≤ 300 := by
  have h1 := flat_len (ks := (List.range (min i 11)).filter (bitB X)) fun k hk => by have := List.mem_range.1 (List.mem_filter.1 hk).1; omega
  have h2 := List.length_filter_le (bitB X) (List.range (min i 11))
  rw [List.length_range] at h2
  have e : (hdX ++ [11, 12].flatMap txK).length = 20 := by decide
  unfold hdB
  rw [List.length_append]
  have := Nat.mul_le_mul_right 20 h2
  omega
theorem hdA_on {ks : List Nat} {X k : Nat} (h : incB X k = true) (hk : k < 13) : hdA (ks ++ [k]) X = hdA ks X ++ [32] ++ cwK k := by
  unfold hdA
  rw [filter_snoc, h, if_pos rfl, ← cwK_eq k hk]
  simp only [List.append_assoc]
theorem hdA_off {ks : List Nat} {X k : Nat} (h : incB X k = false) : hdA (ks ++ [k]) X = hdA ks X := by
  unfold hdA
  rw [filter_snoc, h, if_neg (by decide), List.append_nil]
theorem hdB_on {X i : Nat} (hi : i < 11) (h : bitB X i = true) : hdB (i + 1) X = hdB i X ++ [32] ++ cwK i := by
  unfold hdB
  rw [show min (i + 1) 11 = i + 1 by omega, show min i 11 = i by omega, range_snoc, h, if_pos rfl, ← cwK_eq i (by omega)]
  simp only [List.append_assoc]
theorem hdB_off {X i : Nat} (h : 11 ≤ i ∨ bitB X i = false) : hdB (i + 1) X = hdB i X := by
  unfold hdB
  by_cases hi : 11 ≤ i
  · rw [show min (i + 1) 11 = 11 by omega, show min i 11 = 11 by omega]
  · rcases h with h | h
    · exact absurd h hi
    · rw [show min (i + 1) 11 = i + 1 by omega, show min i 11 = i by omega, range_snoc, h, if_neg (by decide), List.append_nil]
theorem hbit (X k : Nat) : (bits .and .i64 ((X : Int) / 2 ^ k) 1 == 1) = bitB X k := by
  have e : (X : Int) / 2 ^ k = ((X / 2 ^ k : Nat) : Int) := by simp
  rw [e, i64_mask_any 1 (by omega) 1 (by decide)]
  unfold bitB
  rw [Bool.eq_iff_iff, beq_iff_eq, beq_iff_eq]
  omega
theorem tx13c_eq : (tx13c.map fun t => Value.string (txt t)).toArray = (match ((.cells #[.string ⟨#[118, 105, 97, 32, 50, 32, 51]⟩, .string ⟨#[97, 118, 111, 105, 100, 45, 110, 111, 100, 101, 115, 32, 52]⟩, .string ⟨#[97, 118, 111, 105, 100, 45, 108, 105, 110, 107, 115, 32, 53, 32, 54]⟩, .string ⟨#[97, 118, 111, 105, 100, 45, 99, 111, 108, 111, 117, 114, 115, 32, 55]⟩, .string ⟨#[99, 111, 115, 116, 32, 56]⟩, .string ⟨#[115, 114, 99, 32, 49, 46, 48, 46, 48, 46, 48, 47, 56]⟩, .string ⟨#[100, 115, 116, 32, 50, 46, 48, 46, 48, 46, 48, 47, 55]⟩, .string ⟨#[112, 114, 111, 116, 111, 32, 54]⟩, .string ⟨#[115, 112, 111, 114, 116, 32, 57]⟩, .string ⟨#[100, 112, 111, 114, 116, 32, 49, 48]⟩, .string ⟨#[115, 116, 114, 105, 99, 116]⟩, .string ⟨#[102, 114, 111, 109, 32, 48]⟩, .string ⟨#[116, 111, 32, 49]⟩] 9) : Obj) with | .cells cs _ _ => cs | _ => #[]) := by rfl
theorem clauses_in {L : World → Prop} (h : PolicySpec L 19 22) (A : Option Addr) (n c : Nat) (xs : List Int) (X : Nat) (w : World) (hL : L w) (hr : RInt w w.heap.size A n xs) (hn : 13 ≤ n) (hX : X < 2048) : Calls Tryd.prog 8 #[.slice A n c, .int .i64 (X : Int)] w fun e w' => e = .returned (.bool true) ∧ Below w.heap.size w w' := by
  have HA := hid (alive13 h w hL)
  have HN := hid (fun x W => num13_any x W)
  have HS := hid h
  have HK := hid (fun W hb => h.on w W hL hb)
  have HR := hid hr
  have t0 : decide ((n : Int) < 13) = false := by simp; omega
  have t1 : decide ((X : Int) < 0) = false := by simp
  have t2 : decide ((2048 : Int) ≤ (X : Int)) = false := by simp; omega
  have hmk := mk_bools13
  clear h hr
  go_enter Tryd.func8, Tryd.ntmps8
  go_upto_region 6 with (first
    | (go_at_call 18; (with_reducible refine HA.out.mono ?_); rintro e' w1 ⟨rfl, hb1⟩))
  have hz1 : Below w1.heap.size w1 (w1.alloc (.cells (tx13c.map fun t => Value.string (txt t)).toArray 9)) := Below.alloc (Below.refl _ _) (Nat.le_refl _) _
  have k1 := heap_alloc_new w1 (.cells (tx13c.map fun t => Value.string (txt t)).toArray 9)
  obtain ⟨wy, hwy⟩ : ∃ wy, w1.alloc (.cells (tx13c.map fun t => Value.string (txt t)).toArray 9) = wy := ⟨_, rfl⟩
  have hsy : wy.heap.size = w1.heap.size + 1 := by rw [← hwy]; simp
  rw [hwy] at hz1 k1
  have hwy' : w1.alloc (.cells #[.string ⟨#[118, 105, 97, 32, 50, 32, 51]⟩, .string ⟨#[97, 118, 111, 105, 100, 45, 110, 111, 100, 101, 115, 32, 52]⟩, .string ⟨#[97, 118, 111, 105, 100, 45, 108, 105, 110, 107, 115, 32, 53, 32, 54]⟩, .string ⟨#[97, 118, 111, 105, 100, 45, 99, 111, 108, 111, 117, 114, 115, 32, 55]⟩, .string ⟨#[99, 111, 115, 116, 32, 56]⟩, .string ⟨#[115, 114, 99, 32, 49, 46, 48, 46, 48, 46, 48, 47, 56]⟩, .string ⟨#[100, 115, 116, 32, 50, 46, 48, 46, 48, 46, 48, 47, 55]⟩, .string ⟨#[112, 114, 111, 116, 111, 32, 54]⟩, .string ⟨#[115, 112, 111, 114, 116, 32, 57]⟩, .string ⟨#[100, 112, 111, 114, 116, 32, 49, 48]⟩, .string ⟨#[115, 116, 114, 105, 99, 116]⟩, .string ⟨#[102, 114, 111, 109, 32, 48]⟩, .string ⟨#[116, 111, 32, 49]⟩] 9) = wy := hwy
  rw [hwy']
  have hbr := bro_row wy fun _ => false
  have hbz : Below wy.heap.size wy (wy.alloc (.cells (bro fun _ => false) 4)) := Below.alloc (Below.refl _ _) (Nat.le_refl _) _
  obtain ⟨wz, hwz⟩ : ∃ wz, wy.alloc (.cells (bro fun _ => false) 4) = wz := ⟨_, rfl⟩
  rw [hwz] at hbr hbz ⊢
  obtain ⟨G, hG⟩ : ∃ G, w1.heap.size + 1 = G := ⟨_, rfl⟩
  rw [hsy, hG] at hbr
  rw [hsy, hG] at hbz
  simp only [hG]
  have hk1 : w1.heap.size < G := by omega
  have HTx : Hid (∀ k, k < 13 → wz.cell? ⟨w1.heap.size, k, none⟩ = some (.string (txt (cwK k)))) := by
    intro k hk
    rw [hbz.cell (p := ⟨w1.heap.size, k, none⟩) hk1, cell_of_row _ _ _ _ _ _ k1]
    simp [tx13c, hk]
  have hwG : w.heap.size ≤ G := by have := hb1.size; omega
  have hb1z : Below w.heap.size w wz := (hb1.trans (hz1.mono hb1.size)).trans (hbz.mono (by have := hb1.size; omega))
  clear hbz k1 hz1 hwy hwy' hwz hsy hmk
  have hA0 : Value.string ⟨#[114, 117, 108, 101, 32, 120, 32, 53]⟩ = .string (txt (hdA [] X)) := by
    have : hdA [] X = hdX := by simp [hdA]
    rw [this]; rfl
  have hB0 : Value.string ⟨#[114, 117, 108, 101, 32, 120, 32, 53, 32, 102, 114, 111, 109, 32, 48, 32, 116, 111, 32, 49]⟩ = .string (txt (hdB 0 X)) := by
    have : hdB 0 X = hdX ++ [11, 12].flatMap txK := by simp [hdB]
    rw [this]; rfl
  have HBr0 : Hid (BRow wz G 13 (fun v => decide (v ∈ ([] : List Nat)))) := hbr.congr fun e _ => by simp
  have HA0 := hid hA0
  have HB0 := hid hB0
  clear hbr hA0 hB0
  go_wp2_with fail
  go_loopw [8, 9, 10, 11] (fun a b ii _ wr => ∃ (i : Nat) (ks : List Nat), i ≤ 13 ∧ ii = .int .i64 i ∧ Hid (ks.length = i) ∧ Hid ks.Nodup ∧ Hid (∀ k ∈ ks, k < 13) ∧ a = .string (txt (hdA ks X)) ∧ b = .string (txt (hdB i X)) ∧ Hid (BRow wr G 13 (fun v => decide (v ∈ ks))) ∧ Hid (Below G wz wr)) (fun _ _ ii _ _ => 13 - (intOf ii).toNat)
  case atStart => exact ⟨0, [], by omega, rfl, rfl, List.nodup_nil, fun k hk => (by cases hk), HA0.out, HB0.out, HBr0, Below.refl _ _⟩
  case round =>
    obtain ⟨i, ks, hi, rfl, HLen, HNd, HLt, rfl, rfl, HBr, HBl⟩ := hrel
    by_cases hlt : i < 13
    · have hx : i < xs.length := by have := HR.out.1; omega
      obtain ⟨bl, off, rfl, hbl, hcl⟩ := HR.out.2 (by omega)
      have bw : Below w.heap.size w wr := hb1z.trans (HBl.out.mono hwG)
      have c0 := (bw.cell (p := ⟨bl, off + i, none⟩) hbl).trans (hcl i _ (List.getElem?_eq_getElem hx))
      obtain ⟨x, hxx⟩ : ∃ x, xs[i] = x := ⟨_, rfl⟩
      rw [hxx] at c0
      have hmask := i64_mask_any 10 (by omega) 1023 (by decide) x
      obtain ⟨y, hy⟩ : ∃ y : Nat, x % ((2 ^ 10 : Nat) : Int) = (y : Int) := ⟨(x % 1024).toNat, by omega⟩
      rw [hy] at hmask
      have c1 : (i : Int) < (n : Int) := by omega
      obtain ⟨k0, hk0⟩ : ∃ k0 : Nat, (y : Int) % 13 = (k0 : Int) := ⟨y % 13, by omega⟩
      have hk13 : k0 < 13 := by omega
      obtain ⟨j0, hj0, hj1⟩ := one_free (ks := ks) (by have := HLen.out; omega)
      obtain ⟨wo, hwo⟩ : ∃ wo, wo = wr := ⟨_, rfl⟩
      subst hwo
      clear hxx hy hcl bw
      have Hj1 := hid hj1
      clear hj1
      go_upto_region 12 with fail
      clear c0 c1 hmask
      go_loopw [11] (fun kk wq => ∃ k : Nat, k < 13 ∧ kk = .int .i64 k ∧ Hid (wo = wq)) (fun kk _ => (j0 + 13 - (intOf kk).toNat) % 13)
      case atStart => exact ⟨k0, hk13, by rw [hk0], rfl⟩
      case round =>
        obtain ⟨k, hk, rfl, hw⟩ := hrel
        obtain rfl : wo = wr := hw
        have ck := HBr.out.cell hk
        have fk := HBr.out.frozen k
        have e1 : (k : Int) < 13 := by omega
        by_cases hin : k ∈ ks
        · rw [decide_eq_true hin] at ck
          have hkj : k ≠ j0 := fun e => Hj1.out (by rw [← e]; exact hin)
          have hw1 : IntKind.i64.wrap ((k : Int) + 1) = (k : Int) + 1 := by rw [IntKind.wrap_i64]; omega
          have hmz : ((k : Int) + 1) % 13 = (((k + 1) % 13 : Nat) : Int) := by omega
          have hm13 : (k + 1) % 13 < 13 := by omega
          have hms : (j0 + 13 - (k + 1) % 13) % 13 < (j0 + 13 - k) % 13 := by omega
          obtain ⟨k2, hk2⟩ : ∃ k2, (k + 1) % 13 = k2 := ⟨_, rfl⟩
          rw [hk2] at hmz hm13 hms
          clear hk2 fk hkj
          go_wp2_with fail
          go_roundw
          case rel => exact ⟨k2, hm13, by rw [hmz], hid trivial⟩
          case measure =>
            rw [hmz]
            show (j0 + 13 - ((k2 : Int)).toNat) % 13 < (j0 + 13 - ((k : Int)).toNat) % 13
            rw [Int.toNat_natCast, Int.toNat_natCast]
            exact hms
        · rw [decide_eq_false hin] at ck
          have HTk := HTx.out k hk
          have ctk := (HBl.out.cell (p := ⟨w1.heap.size, k, none⟩) hk1).trans HTk
          have bA := hbit X k
          have bB := hbit X i
          have hmk2 := mark_ks ks k
          have HBm : Hid (BRow (wo.setCell ⟨G, k, none⟩ (.bool true)) G 13 (fun v => decide (v ∈ ks ++ [k]))) := by
            have := HBr.out.set (e := k) true
            rw [hmk2] at this
            exact this
          have HBlm : Hid (Below G wz (wo.setCell ⟨G, k, none⟩ (.bool true))) := HBl.out.setCell (Nat.le_refl _) _
          have HLen2 : Hid ((ks ++ [k]).length = i + 1) := by show _ = _; rw [List.length_append, HLen.out]; rfl
          have HNd2 : Hid (ks ++ [k]).Nodup := by
            show List.Nodup _
            rw [List.nodup_append]
            exact ⟨HNd.out, by simp, fun a ha c hc => by simp only [List.mem_singleton] at hc; subst hc; exact fun e => hin (by rw [← e]; exact ha)⟩
          have HLt2 : Hid (∀ j ∈ ks ++ [k], j < 13) := by
            intro j hj
            rcases List.mem_append.1 hj with hj | hj
            · exact HLt.out j hj
            · simp only [List.mem_singleton] at hj; subst hj; exact hk
          have ctk := (HBl.out.cell (p := ⟨w1.heap.size, k, none⟩) hk1).trans (HTx.out k hk)
          have cti := (HBl.out.cell (p := ⟨w1.heap.size, i, none⟩) hk1).trans (HTx.out i hlt)
          have ctk2 : (wo.setCell ⟨G, k, none⟩ (.bool true)).cell? ⟨w1.heap.size, k, none⟩ = some (.string (txt (cwK k))) := (HBlm.out.cell (p := ⟨w1.heap.size, k, none⟩) hk1).trans (HTx.out k hk)
          have cti2 : (wo.setCell ⟨G, k, none⟩ (.bool true)).cell? ⟨w1.heap.size, i, none⟩ = some (.string (txt (cwK i))) := (HBlm.out.cell (p := ⟨w1.heap.size, i, none⟩) hk1).trans (HTx.out i hlt)
          have e2 : (i : Int) < 13 := by omega
          have hlA := hdA_len X HLt.out
          have hlB := hdB_len X i
          have hks := HLen.out
          obtain ⟨T1, hT1⟩ : ∃ T1, hdA ks X ++ [32] = T1 := ⟨_, rfl⟩
          obtain ⟨U1, hU1⟩ : ∃ U1, hdB i X ++ [32] = U1 := ⟨_, rfl⟩
          have cA1 : ∀ W, (Op.stringOp .add (txt (hdA ks X)) ⟨#[32]⟩).run Tryd.prog W = .ok (.string (txt T1)) W := fun W => by
            rw [← hT1]; exact run_cat (hdA ks X) [32] (by simp only [List.length_cons, List.length_nil]; omega) W
          have cB1 : ∀ W, (Op.stringOp .add (txt (hdB i X)) ⟨#[32]⟩).run Tryd.prog W = .ok (.string (txt U1)) W := fun W => by
            rw [← hU1]; exact run_cat (hdB i X) [32] (by simp only [List.length_cons, List.length_nil]; omega) W
          have lT : T1.length = (hdA ks X).length + 1 := by rw [← hT1, List.length_append]; rfl
          have lU : U1.length = (hdB i X).length + 1 := by rw [← hU1, List.length_append]; rfl
          have lk := cwK_len k hk
          have li := cwK_len i hlt
          have cA2 := fun W => run_cat T1 (cwK k) (by omega) W
          have cB2 := fun W => run_cat U1 (cwK i) (by omega) W
          have HAy : Hid (incB X k = true → hdA (ks ++ [k]) X = T1 ++ cwK k) := fun hi => by rw [hdA_on hi hk, ← hT1]
          have HAn : Hid (incB X k = false → hdA (ks ++ [k]) X = hdA ks X) := fun hi => hdA_off hi
          have HBy : Hid (i < 11 → bitB X i = true → hdB (i + 1) X = U1 ++ cwK i) := fun h1 h2 => by rw [hdB_on h1 h2, ← hU1]
          have HBn : Hid (11 ≤ i ∨ bitB X i = false → hdB (i + 1) X = hdB i X) := fun h1 => hdB_off h1
          obtain ⟨T2, hT2⟩ : ∃ T2, T1 ++ cwK k = T2 := ⟨_, rfl⟩
          obtain ⟨U2, hU2⟩ : ∃ U2, U1 ++ cwK i = U2 := ⟨_, rfl⟩
          rw [hT2] at cA2 HAy
          rw [hU2] at cB2 HBy
          clear hT1 hU1 hT2 hU2 lT lU lk li hlA hlB hks hmk2 hk0 hin
          by_cases ha11 : 11 ≤ k
          · by_cases hb11 : i < 11
            · cases hbB : bitB X i with
              | true =>
                have hti : decide ((11 : Int) ≤ (k : Int)) = true := by simp; omega
                have hti2 : decide ((i : Int) < 11) = true := by simp; omega
                have hinc : incB X k = true := by unfold incB; rw [show decide (11 ≤ k) = true by simp; omega]; rfl
                clear bA
                rw [hbB] at bB
                have Hinc := hid hinc
                have Hbb := hid hbB
                clear hinc hbB
                go_wp2_with fail
                clear cA1 cA2 cB1 cB2 ctk cti ctk2 cti2 ck fk bB
                go_roundw
                case rel => exact ⟨i + 1, ks ++ [k], by omega, by go_num, HLen2, HNd2, HLt2, by rw [HAy.out Hinc.out], by rw [HBy.out (by omega) Hbb.out], HBm, HBlm⟩
                case measure => simp [intOf]; omega
              | false =>
                have hti : decide ((11 : Int) ≤ (k : Int)) = true := by simp; omega
                have hti2 : decide ((i : Int) < 11) = true := by simp; omega
                have hinc : incB X k = true := by unfold incB; rw [show decide (11 ≤ k) = true by simp; omega]; rfl
                clear bA
                rw [hbB] at bB
                have Hinc := hid hinc
                have Hbb := hid hbB
                clear hinc hbB
                go_wp2_with fail
                clear cA1 cA2 cB1 cB2 ctk cti ctk2 cti2 ck fk bB
                go_roundw
                case rel => exact ⟨i + 1, ks ++ [k], by omega, by go_num, HLen2, HNd2, HLt2, by rw [HAy.out Hinc.out], by rw [HBn.out (.inr Hbb.out)], HBm, HBlm⟩
                case measure => simp [intOf]; omega
            · have hti : decide ((11 : Int) ≤ (k : Int)) = true := by simp; omega
              have hti2 : decide ((i : Int) < 11) = false := by simp; omega
              have hinc : incB X k = true := by unfold incB; rw [show decide (11 ≤ k) = true by simp; omega]; rfl
              clear bA
              clear bB
              have Hinc := hid hinc
              clear hinc
              go_wp2_with fail
              clear cA1 cA2 cB1 cB2 ctk cti ctk2 cti2 ck fk
              go_roundw
              case rel => exact ⟨i + 1, ks ++ [k], by omega, by go_num, HLen2, HNd2, HLt2, by rw [HAy.out Hinc.out], by rw [HBn.out (.inl (by omega))], HBm, HBlm⟩
              case measure => simp [intOf]; omega
          · cases hbA : bitB X k with
            | true =>
              by_cases hb11 : i < 11
              · cases hbB : bitB X i with
                | true =>
                  have hti : decide ((11 : Int) ≤ (k : Int)) = false := by simp; omega
                  have hti2 : decide ((i : Int) < 11) = true := by simp; omega
                  have hinc : incB X k = true := by unfold incB; rw [show decide (11 ≤ k) = false by simp; omega, hbA]; rfl
                  rw [hbA] at bA
                  rw [hbB] at bB
                  have Hinc := hid hinc
                  have Hbb := hid hbB
                  clear hinc hbA hbB
                  go_wp2_with fail
                  clear cA1 cA2 cB1 cB2 ctk cti ctk2 cti2 ck fk bA bB
                  go_roundw
                  case rel => exact ⟨i + 1, ks ++ [k], by omega, by go_num, HLen2, HNd2, HLt2, by rw [HAy.out Hinc.out], by rw [HBy.out (by omega) Hbb.out], HBm, HBlm⟩
                  case measure => simp [intOf]; omega
                | false =>
                  have hti : decide ((11 : Int) ≤ (k : Int)) = false := by simp; omega
                  have hti2 : decide ((i : Int) < 11) = true := by simp; omega
                  have hinc : incB X k = true := by unfold incB; rw [show decide (11 ≤ k) = false by simp; omega, hbA]; rfl
                  rw [hbA] at bA
                  rw [hbB] at bB
                  have Hinc := hid hinc
                  have Hbb := hid hbB
                  clear hinc hbA hbB
                  go_wp2_with fail
                  clear cA1 cA2 cB1 cB2 ctk cti ctk2 cti2 ck fk bA bB
                  go_roundw
                  case rel => exact ⟨i + 1, ks ++ [k], by omega, by go_num, HLen2, HNd2, HLt2, by rw [HAy.out Hinc.out], by rw [HBn.out (.inr Hbb.out)], HBm, HBlm⟩
                  case measure => simp [intOf]; omega
              · have hti : decide ((11 : Int) ≤ (k : Int)) = false := by simp; omega
                have hti2 : decide ((i : Int) < 11) = false := by simp; omega
                have hinc : incB X k = true := by unfold incB; rw [show decide (11 ≤ k) = false by simp; omega, hbA]; rfl
                rw [hbA] at bA
                clear bB
                have Hinc := hid hinc
                clear hinc hbA
                go_wp2_with fail
                clear cA1 cA2 cB1 cB2 ctk cti ctk2 cti2 ck fk bA
                go_roundw
                case rel => exact ⟨i + 1, ks ++ [k], by omega, by go_num, HLen2, HNd2, HLt2, by rw [HAy.out Hinc.out], by rw [HBn.out (.inl (by omega))], HBm, HBlm⟩
                case measure => simp [intOf]; omega
            | false =>
              by_cases hb11 : i < 11
              · cases hbB : bitB X i with
                | true =>
                  have hti : decide ((11 : Int) ≤ (k : Int)) = false := by simp; omega
                  have hti2 : decide ((i : Int) < 11) = true := by simp; omega
                  have hinc : incB X k = false := by unfold incB; rw [show decide (11 ≤ k) = false by simp; omega, hbA]; rfl
                  rw [hbA] at bA
                  rw [hbB] at bB
                  have Hinc := hid hinc
                  have Hbb := hid hbB
                  clear hinc hbA hbB
                  go_wp2_with fail
                  clear cA1 cA2 cB1 cB2 ctk cti ctk2 cti2 ck fk bA bB
                  go_roundw
                  case rel => exact ⟨i + 1, ks ++ [k], by omega, by go_num, HLen2, HNd2, HLt2, by rw [HAn.out Hinc.out], by rw [HBy.out (by omega) Hbb.out], HBm, HBlm⟩
                  case measure => simp [intOf]; omega
                | false =>
                  have hti : decide ((11 : Int) ≤ (k : Int)) = false := by simp; omega
                  have hti2 : decide ((i : Int) < 11) = true := by simp; omega
                  have hinc : incB X k = false := by unfold incB; rw [show decide (11 ≤ k) = false by simp; omega, hbA]; rfl
                  rw [hbA] at bA
                  rw [hbB] at bB
                  have Hinc := hid hinc
                  have Hbb := hid hbB
                  clear hinc hbA hbB
                  go_wp2_with fail
                  clear cA1 cA2 cB1 cB2 ctk cti ctk2 cti2 ck fk bA bB
                  go_roundw
                  case rel => exact ⟨i + 1, ks ++ [k], by omega, by go_num, HLen2, HNd2, HLt2, by rw [HAn.out Hinc.out], by rw [HBn.out (.inr Hbb.out)], HBm, HBlm⟩
                  case measure => simp [intOf]; omega
              · have hti : decide ((11 : Int) ≤ (k : Int)) = false := by simp; omega
                have hti2 : decide ((i : Int) < 11) = false := by simp; omega
                have hinc : incB X k = false := by unfold incB; rw [show decide (11 ≤ k) = false by simp; omega, hbA]; rfl
                rw [hbA] at bA
                clear bB
                have Hinc := hid hinc
                clear hinc hbA
                go_wp2_with fail
                clear cA1 cA2 cB1 cB2 ctk cti ctk2 cti2 ck fk bA
                go_roundw
                case rel => exact ⟨i + 1, ks ++ [k], by omega, by go_num, HLen2, HNd2, HLt2, by rw [HAn.out Hinc.out], by rw [HBn.out (.inl (by omega))], HBm, HBlm⟩
                case measure => simp [intOf]; omega
    · have hi13 : i = 13 := by omega
      have hp := all_perm (HLen.out.trans hi13) HNd.out HLt.out
      have hpi := inc_perm (X := X) hp
      have hlA := hdA_len X HLt.out
      have hlB := hdB_len X i
      have hkl := HLen.out
      have eA : hdA ks X ++ [59] = hdX ++ (ks.filter (incB X)).flatMap txK ++ [59] := rfl
      have eB0 : hdB i X = hdX ++ (ksB (bitB X)).flatMap txK := by
        unfold hdB ksB
        rw [hi13, show min 13 11 = 11 from rfl, List.flatMap_append]
        simp only [List.append_assoc]
      have hmem : ∀ j, j < 13 → 11 ≤ j → j ∈ ks.filter (incB X) := fun j h1 h2 => List.mem_filter.2 ⟨hp.mem_iff.2 (List.mem_range.2 h1), by unfold incB; rw [show decide (11 ≤ j) = true by simp; omega]; rfl⟩
      have hltS : ∀ j ∈ ksB (bitB X), j < 13 := fun j hj => HLt.out j (List.mem_filter.1 (hpi.mem_iff.2 hj)).1
      have pA : parseS (hdA ks X ++ [59]) = ([rulB (bitB X)], -1, 0) := by
        rw [eA, parse_order _ (fun j hj => HLt.out j (List.mem_filter.1 hj).1) (HNd.out.filter _) (hmem 11 (by omega) (by omega)) (hmem 12 (by omega) (by omega)) (by rw [← eA, List.length_append]; simp only [List.length_cons, List.length_nil]; omega), fold_perm hpi (fun j hj => HLt.out j (List.mem_filter.1 hj).1), fold_std]
      have pB : parseS (hdB i X ++ [59]) = ([rulB (bitB X)], -1, 0) := by
        rw [eB0, parse_order _ hltS (hpi.nodup_iff.1 (HNd.out.filter _)) (by unfold ksB; simp) (by unfold ksB; simp) (by rw [← eB0, List.length_append]; simp only [List.length_cons, List.length_nil]; omega), fold_std]
      have pC : showAll [rulB (bitB X)] = hdB i X ++ [59, 10] := by
        unfold showAll
        rw [List.flatMap_cons, List.flatMap_nil, List.append_nil, show_std, eB0]
      obtain ⟨TA, hTA⟩ : ∃ T, hdA ks X ++ [59] = T := ⟨_, rfl⟩
      obtain ⟨TB, hTB⟩ : ∃ T, hdB i X ++ [59] = T := ⟨_, rfl⟩
      obtain ⟨TC, hTC⟩ : ∃ T, hdB i X ++ [59, 10] = T := ⟨_, rfl⟩
      have cA : ∀ W, (Op.stringOp .add (txt (hdA ks X)) ⟨#[59]⟩).run Tryd.prog W = .ok (.string (txt TA)) W := fun W => by
        rw [← hTA]; exact run_cat (hdA ks X) [59] (by simp only [List.length_cons, List.length_nil]; omega) W
      have cB : ∀ W, (Op.stringOp .add (txt (hdB i X)) ⟨#[59]⟩).run Tryd.prog W = .ok (.string (txt TB)) W := fun W => by
        rw [← hTB]; exact run_cat (hdB i X) [59] (by simp only [List.length_cons, List.length_nil]; omega) W
      have cC : ∀ W, (Op.stringOp .add (txt (hdB i X)) ⟨#[59, 10]⟩).run Tryd.prog W = .ok (.string (txt TC)) W := fun W => by
        rw [← hTC]; exact run_cat (hdB i X) [59, 10] (by simp only [List.length_cons, List.length_nil]; omega) W
      have lA : TA.length ≤ 1000 := by rw [← hTA, List.length_append]; simp only [List.length_cons, List.length_nil]; omega
      have lB : TB.length ≤ 1000 := by rw [← hTB, List.length_append]; simp only [List.length_cons, List.length_nil]; omega
      rw [hTA] at pA
      rw [hTB] at pB
      rw [hTC] at pC
      obtain ⟨_, hfr⟩ := parse_fair pA
      have hfr1 := hfr _ (List.mem_singleton.2 rfl)
      obtain ⟨R, hR⟩ : ∃ R, rulB (bitB X) = R := ⟨_, rfl⟩
      rw [hR] at pA pB pC hfr1
      have H1 := hid (fun W (hW : L W) => parse_out (m := 1) pA rfl (HS.out.parse TA W hW (by omega)))
      have H2 := hid (fun W (hW : L W) => parse_out (m := 1) pB rfl (HS.out.parse TB W hW (by omega)))
      have HSm := hid (same_of (L := [R]) (m := 1) rfl (by omega) (fun r hr => by rw [List.mem_singleton] at hr; subst hr; exact fair_short hfr1.1))
      have HSh : Hid (∀ (A : Option Addr) (c : Nat) (qs : List (Rul × WSl)) (W : World), L W → qs.map (·.1) = [R] → RRul W A 1 c qs → Calls Tryd.prog 22 #[.slice A 1 c] W fun e w' => e = .returned (.string (txt TC)) ∧ Below W.heap.size W w') := by
        intro A c qs W hW hq hr
        have := HS.out.shows A 1 c qs W hW hr (by omega) (fun q hm => by
          have h1 : q.1 ∈ qs.map (·.1) := List.mem_map.2 ⟨q, hm, rfl⟩
          rw [hq, List.mem_singleton] at h1
          rw [h1]
          exact hfr1)
        rw [hq, pC] at this
        exact this
      have htl : (txt TC).toList = TC := txt_list TC
      have ht13 : decide ((i : Int) < 13) = false := by simp; omega
      have hbw : Below w.heap.size w wr := hb1z.trans (HBl.out.mono hwG)
      clear hp hpi hlA hlB hkl eA eB0 hmem hltS pA pB pC hTA hTB hTC lA lB hfr hfr1 hR hlt hi13
      go_wp2_with (first
        | (go_at_call 19; (with_reducible refine (H1.out _ (HK.out _ hbw)).mono ?_); rintro e' w2 ⟨A1, c1, qs1, rfl, hq1, hr1, hb2⟩; have HQ1 := hid hq1; have HR1 := hid hr1; have hd2 := hid (hbw.trans (hb2.mono hbw.size)); clear hq1 hr1)
        | (go_at_call 19; (with_reducible refine (H2.out _ (HK.out _ hd2.out)).mono ?_); rintro e' w3 ⟨A2, c2, qs2, rfl, hq2, hr2, hb3⟩; have HQ2 := hid hq2; have HR2 := hid hr2; have hd3 := hid (hd2.out.trans (hb3.mono hd2.out.size)); clear hq2 hr2)
        | (go_at_call 20; (with_reducible refine (HN.out _ _).mono ?_); rintro _ _ ⟨rfl, rfl⟩)
        | (go_at_call 21; (with_reducible refine (HSm.out A1 A2 c1 c2 qs1 qs2 _ HQ1.out HQ2.out (HR1.out.on hb3) HR2.out).mono ?_); rintro e' w4 ⟨rfl, hb4⟩; have hd4 := hid (hd3.out.trans (hb4.mono hd3.out.size)))
        | (go_at_call 22; (with_reducible refine (HSh.out A1 c1 qs1 _ (HK.out _ hd4.out) HQ1.out ((HR1.out.on hb3).on hb4)).mono ?_); rintro e' w5 ⟨rfl, hb5⟩))
      go_ret
      exact ⟨rfl, hd4.out.trans (hb5.mono hd4.out.size)⟩
theorem clauses_any {L : World → Prop} (h : PolicySpec L 19 22) (A : Option Addr) (n c : Nat) (xs : List Int) (x : Int) (w : World) (hL : L w) (hr : RInt w w.heap.size A n xs) : Calls Tryd.prog 8 #[.slice A n c, .int .i64 x] w fun e w' => e = .returned (.bool true) ∧ Below w.heap.size w w' := by
  by_cases hx : 13 ≤ n ∧ 0 ≤ x ∧ x < 2048
  · obtain ⟨i, rfl⟩ := Int.eq_ofNat_of_zero_le hx.2.1
    exact clauses_in h A n c xs i w hL hr hx.1 (by omega)
  · have HA := hid (alive13 h w hL)
    rcases (show decide ((n : Int) < 13) = true ∨ (decide ((n : Int) < 13) = false ∧ decide (x < 0) = true) ∨ (decide ((n : Int) < 13) = false ∧ decide (x < 0) = false ∧ decide ((2048 : Int) ≤ x) = true) by simp only [decide_eq_true_eq, decide_eq_false_iff_not]; omega) with t1 | ⟨t1, t2⟩ | ⟨t1, t2, t3⟩ <;>
    · clear h hx hr
      go_enter Tryd.func8, Tryd.ntmps8
      go_wp2_with (first
        | (go_at_call 18; (with_reducible refine HA.out.mono ?_); rintro e' w1 ⟨rfl, hb1⟩))
      go_ret
      exact ⟨rfl, hb1⟩
end Go.Proofs.YtcmkcloapenpnaaDoor
