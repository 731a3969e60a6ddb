/- slices.symMergeCmpFunc at rules: one element from behind into a sorted part. -/
import Derived.Test.YthoblabimkfjpaaSuD
namespace Go.Proofs.Ythoblabimkfjpaa
open Go.RowKit Go.Sort Go.Proofs
set_option maxHeartbeats 6400000
set_option maxRecDepth 1000000
section
variable {α : Type} [Inhabited α]
variable {enc : α → List Value} {k : Nat} {w : World} {blk off : Nat} {cf : α → α → Int} {pr : α → Int} {tg : α → Nat}
theorem sym_last (E : Elt enc k) (g : Nat) (cb : Array Value) (C : CmpA g cb enc cf pr) (cap a m : Nat) (d : Array α) (w : World) (hH : HoldsK enc k w blk off d) (hblk : blk < w.heap.size) (ham : a + 1 < m) (hb : m + 1 ≤ d.size) (hsz : d.size < 4611686018427387904)
    (h1 : SoT pr tg d a m) (h3 : Sep tg d a m (m + 1)) :
    Calls Try.prog 60 #[.slice (some ⟨blk, off, none⟩) d.size cap, .int .i64 a, .int .i64 m, .int .i64 ((m : Int) + 1), .func (.func g) #[] cb] w fun e w' =>
      e = .returned (.tuple #[]) ∧ ∃ d' : Array α, Srt enc k w blk off d' w' ∧ PermIn a (m + 1) d d' ∧ SoT pr tg d' a (m + 1) := by
  have mixed : Try.prog.follows .mixedOrders = true := by kernel_rfl
  have HE := hid E
  have aE := E.ag
  have zE := E.sz
  have HH := hid hH
  have HS := hid (Srt.start hH)
  have HC := hid C
  have eg := C.eg
  have H1 := hid h1
  have H3 := hid h3
  have mono : ∀ c c', a ≤ c → c ≤ c' → c' < m → ltP pr d[m]! d[c']! = false → ltP pr d[m]! d[c]! = false := by
    intro c c' hc hcc hcb h
    by_cases he : c = c'
    · rw [he]; exact h
    · have hb1 : BfT pr tg d[c]! d[m]! := (h1 c c' hc (by omega) hcb).trans (bef_of_not (h3 c' m (by omega) hcb (Nat.le_refl _) (by omega)) h)
      cases hv : ltP pr d[m]! d[c]! with
      | false => rfl
      | true => exact (hb1.irr (bef_of_lt hv)).elim
  have MO := hid mono
  have t00 : ((m : Int) - (a : Int) == 1) = false := by simp; omega
  have t01 : ((m : Int) + 1 - (m : Int) == 1) = true := by simp; omega
  clear hH E C h1 h3 mono
  go_enter Try.func60, Try.ntmps60
  go_wp2_with fail
  go_loopw [14, 15] (fun vi vj wr => ∃ (i j : Nat), vi = .int .i64 i ∧ vj = .int .i64 j ∧ a ≤ i ∧ i ≤ j ∧ j ≤ m ∧ Hid (Srt enc k w blk off d wr) ∧ Hid (∀ c, a ≤ c → c < i → ltP pr d[m]! d[c]! = false) ∧ Hid (∀ c, j ≤ c → c < m → ltP pr d[m]! d[c]! = true)) (fun vi vj _ => (intOf vj).toNat - (intOf vi).toNat)
  case atStart => exact ⟨a, m, rfl, rfl, Nat.le_refl _, by omega, Nat.le_refl _, HS, fun c _ _ => by omega, fun c _ _ => by omega⟩
  case round =>
    obtain ⟨i, j, rfl, rfl, hi1, hij, hjb, HW, HL, HR⟩ := hrel
    by_cases hlt : i < j
    · have hltz : decide ((i : Int) < (j : Int)) = true := decide_eq_true (by omega)
      obtain ⟨hh, hhe⟩ : ∃ hh : Nat, ((i : Int) + (j : Int)) / 2 = (hh : Int) := ⟨(i + j) / 2, by omega⟩
      have hh1 : i ≤ hh := by omega
      have hh2 : hh < j := by omega
      have jh : (hh : Int) < (d.size : Int) := by omega
      have jm : (m : Int) < (d.size : Int) := by omega
      obtain ⟨xh, hxh⟩ : ∃ x, d[hh]! = x := ⟨_, rfl⟩
      obtain ⟨xm, hxm⟩ : ∃ x, d[m]! = x := ⟨_, rfl⟩
      have lh := HW.out.rd HE.out HH.out hblk rfl (t := hh) (by omega)
      have lm := HW.out.rd HE.out HH.out hblk rfl (t := m) (by omega)
      rw [hxh] at lh
      rw [hxm] at lm
      have hcg : ∀ n' os', Calls Try.prog g (#[.agg (enc xm).toArray, .agg (enc xh).toArray] ++ cb) (grow (wr.drewN n') os') fun e w' => e = .returned (.int .i64 (cf xm xh)) ∧ ∃ q os'', w' = grow ((grow (wr.drewN n') os').drewN q) os'' := fun n' os' => HC.out.cmp xm xh _
      have hlt2 := HC.out.lt xm xh
      obtain ⟨cc, hcc⟩ : ∃ c, cf xm xh = c := ⟨_, rfl⟩
      rw [hcc] at hlt2
      simp only [hcc] at hcg
      have HX := hid (And.intro hxh hxm)
      have HE2 := hid hhe
      clear hxh hxm hcc
      cases hlv : ltP pr xm xh with
      | false =>
        rw [hlv] at hlt2
        have HLV := hid hlv
        clear hlv
        go_wp2_with fail
        go_quiet_grown (first | (go_at_fn g; refine Calls.grown_of (hcg _ _)))
        go_wp2_with fail
        go_roundw
        case measure => simp [intOf]; omega
        case rel =>
          refine ⟨hh + 1, j, by go_num, rfl, by omega, by omega, hjb, HW.out.grown _ _, fun c h1 h2 => MO.out c hh h1 (by omega) (by omega) (by rw [HX.out.1, HX.out.2]; exact HLV.out), HR⟩
      | true =>
        rw [hlv] at hlt2
        have HLV := hid hlv
        clear hlv
        go_wp2_with fail
        go_quiet_grown (first | (go_at_fn g; refine Calls.grown_of (hcg _ _)))
        go_wp2_with fail
        go_roundw
        case measure => simp [intOf]; omega
        case rel =>
          refine ⟨i, hh, rfl, by go_num, hi1, hh1, by omega, HW.out.grown _ _, HL, ?_⟩
          show Hid _
          intro c h1 h2
          cases hv : ltP pr d[m]! d[c]! with
          | true => rfl
          | false =>
            have := MO.out hh c (by omega) h1 h2 hv
            rw [HX.out.1, HX.out.2, HLV.out] at this
            exact this.symm
    · have hltz : decide ((i : Int) < (j : Int)) = false := decide_eq_false (by omega)
      obtain rfl : i = j := by omega
      go_wp2_with fail
      go_loopw [17] (fun vk wr => ∃ (q : Nat) (dk : Array α), vk = .int .i64 q ∧ i ≤ q ∧ q ≤ m ∧ dk.size = d.size ∧ Hid (Srt enc k w blk off dk wr) ∧ Hid (∀ t, dk[t]! = d[shR q m t]!) ∧ Hid (PermIn a (m + 1) d dk)) (fun vk _ => (intOf vk).toNat)
      case atStart =>
        refine ⟨m, d, rfl, hjb, Nat.le_refl _, rfl, HW, fun t => ?_, permIn_refl _ _ _⟩
        unfold shR
        repeat' split
        all_goals first | rfl | (congr 1 <;> omega)
      case round =>
        obtain ⟨q, dk, rfl, haq, hqi, hsk, HW2, HM, HP⟩ := hrel
        by_cases hqlt : i < q
        · have t1 : decide ((i : Int) < (q : Int)) = true := decide_eq_true (by omega)
          obtain ⟨p, rfl⟩ : ∃ p, q = p + 1 := ⟨q - 1, by omega⟩
          have jq : (p : Int) < (d.size : Int) := by omega
          have jq1 : (p : Int) + 1 < (d.size : Int) := by omega
          have pq : (0 : Int) ≤ (p : Int) + 1 := by omega
          have eq1 : ((p : Int) + 1).toNat = p + 1 := by omega
          have eq2 : (p : Int) + 1 - 1 = (p : Int) := by omega
          have wp0 : IntKind.i64.wrap (p : Int) = (p : Int) := by rw [IntKind.wrap_i64]; omega
          obtain ⟨x0, hx0⟩ : ∃ v, dk[p]! = v := ⟨_, rfl⟩
          obtain ⟨x1, hx1⟩ : ∃ v, dk[p + 1]! = v := ⟨_, rfl⟩
          have l0 := HW2.out.rd1 HE.out HH.out hblk hsk (t := p) (by omega)
          have l1 := HW2.out.rd1 HE.out HH.out hblk hsk (t := p + 1) (by omega)
          obtain ⟨s0, s1⟩ := HW2.out.st1 HE.out HH.out hblk hsk (i := p + 1) (j := p) (by omega) x1 x0
          replace s1 := s1 (by omega)
          rw [hx0] at l0
          rw [hx1] at l1
          have n0 : (enc x0).length = k := HE.out.len _
          have n1 : (enc x1).length = k := HE.out.len _
          obtain ⟨c0, hc0⟩ : ∃ c, c = enc x0 := ⟨_, rfl⟩
          obtain ⟨c1, hc1⟩ : ∃ c, c = enc x1 := ⟨_, rfl⟩
          rw [← hc0] at l0 n0 s0 s1
          rw [← hc1] at l1 n1 s1
          have CC := hid (And.intro (And.intro hx0 hx1) (And.intro hc0 hc1))
          clear hx0 hx1 hc0 hc1
          go_wp2_with fail
          go_big_region_o
          all_goals go_wp2
          go_roundw
          case measure => simp [intOf]
          case rel =>
            refine ⟨p, swp dk (p + 1) p, by go_num, by omega, by omega, by rw [size_swp]; exact hsk, ?_, shR_swp (by omega) hsk (by omega) HM.out, permIn_trans _ _ _ _ _ HP.out (swp_permIn dk a (m + 1) (p + 1) p (by omega) (by omega) (by omega) (by omega) (by omega))⟩
            show Hid _
            rw [CC.out.2.1, CC.out.2.2, ← CC.out.1.1, ← CC.out.1.2]
            exact HW2.out.swp HE.out hblk (by omega) (by omega)
        · have t1 : decide ((i : Int) < (q : Int)) = false := decide_eq_false (by omega)
          go_wp2_with fail
          (try simp only [Exit.inBlock, Exit.then])
          refine bodyPost_ret (results_none rfl _ _ _) rfl ?_
          have hq : q = i := by omega
          subst hq
          refine ⟨rfl, dk, HW2.out, HP.out, ins_right (i := q) hi1 hjb H1.out (fun c h1 h2 => bef_of_not (H3.out c m h1 (by omega) (Nat.le_refl _) (by omega)) (HL.out c h1 h2)) (fun c h1 h2 => bef_of_lt (HR.out c h1 h2)) (fun t => ?_)⟩
          rw [HM.out]
          unfold shR
          repeat' split
          all_goals rfl
end
end Go.Proofs.Ythoblabimkfjpaa
