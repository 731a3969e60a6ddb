/- slices.symMergeCmpFunc at rules: one element into a sorted part. -/
import Derived.Test.YthoblabimkfjpaaSuC
namespace Go.Proofs.Ythoblabimkfjpaa
open Go.RowKit Go.Sort Go.Proofs
set_option maxHeartbeats 6400000
set_option maxRecDepth 1000000
section
variable {α : Type} [Inhabited α]
/-- What is asked of the comparison: function g, bound to cb. -/
structure CmpA (g : Nat) (cb : Array Value) (enc : α → List Value) (cf : α → α → Int) (pr : α → Int) : Prop where
  eg : ∀ args w, (callFunc g args).run Try.prog w = .ok (.enter g args) w
  cmp : ∀ x y W, Calls Try.prog g (#[.agg (enc x).toArray, .agg (enc y).toArray] ++ cb) W fun e w' => e = .returned (.int .i64 (cf x y)) ∧ ∃ q os', w' = grow (W.drewN q) os'
  lt : ∀ x y, decide (cf x y < 0) = ltP pr x y
omit [Inhabited α] in
theorem lt_of_bef {pr : α → Int} {tg : α → Nat} {x y : α} (ht : tg x < tg y) (h : BfT pr tg y x) : ltP pr y x = true := by
  unfold ltP; unfold BfT at h; simp; omega
/-- Where d[a] goes in, step by step. -/
def shL (a k t : Nat) : Nat := if t < a then t else if t < k then t + 1 else if t = k then a else t
theorem shL_swp {d d1 : Array α} {a k : Nat} (hk : a ≤ k) (hs : d1.size = d.size) (hb : k + 1 < d.size) (h : ∀ t, d1[t]! = d[shL a k t]!) : ∀ t, (swp d1 k (k + 1))[t]! = d[shL a (k + 1) t]! := by
  intro t
  rw [swp_get d1 (by omega) (by omega), h, h, h]
  unfold shL
  by_cases h1 : t = k + 1
  · subst h1
    rw [if_pos rfl, if_neg (by omega), if_neg (by omega), if_pos rfl, if_neg (by omega), if_neg (by omega), if_pos rfl]
  · rw [if_neg h1]
    by_cases h2 : t = k
    · subst h2
      rw [if_pos rfl, if_neg (by omega), if_neg (by omega), if_neg (by omega), if_neg (by omega), if_pos (by omega)]
    · rw [if_neg h2]
      repeat' split
      all_goals first | rfl | omega
def shR (k m t : Nat) : Nat := if t < k then t else if t = k then m else if t ≤ m then t - 1 else t
theorem shR_swp {d d1 : Array α} {k m : Nat} (hk : k + 1 ≤ m) (hs : d1.size = d.size) (hb : m < d.size) (h : ∀ t, d1[t]! = d[shR (k + 1) m t]!) : ∀ t, (swp d1 (k + 1) k)[t]! = d[shR k m t]! := by
  intro t
  rw [swp_get d1 (by omega) (by omega), h, h, h]
  unfold shR
  by_cases h1 : t = k
  · subst h1
    rw [if_pos rfl, if_neg (by omega), if_pos rfl, if_neg (by omega), if_pos rfl]
  · rw [if_neg h1]
    by_cases h2 : t = k + 1
    · subst h2
      rw [if_pos rfl, if_pos (by omega), if_neg (by omega), if_neg (by omega), if_pos (by omega)]
      congr 1
    · rw [if_neg h2]
      repeat' split
      all_goals first | rfl | omega
variable {enc : α → List Value} {k : Nat} {w : World} {blk off : Nat} {cf : α → α → Int} {pr : α → Int} {tg : α → Nat}
/-- Reading a whole element, in every world of the sort's that only grew or drew. -/
theorem Srt.rd {d : Array α} {wr : World} (E : Elt enc k) (h : Srt enc k w blk off d wr) {d0 : Array α} (hH : HoldsK enc k w blk off d0) (hblk : blk < w.heap.size) (hs : d.size = d0.size) {t : Nat} (ht : t < d.size) :
    ∀ n' os', Sem.run Try.prog (loadCellsFrom ⟨blk, off + t * k, none⟩ 0 k #[]) (grow (wr.drewN n') os') = .ok (enc d[t]!).toArray (grow (wr.drewN n') os') := fun n' os' =>
  run_loadCellsFrom_list Try.prog _ _ _ k (E.len _) (HoldsK.cells ((h.grown n' os').holds hH hblk hs).1 E.len ht)
theorem Srt.rd1 {d : Array α} {wr : World} (E : Elt enc k) (h : Srt enc k w blk off d wr) {d0 : Array α} (hH : HoldsK enc k w blk off d0) (hblk : blk < w.heap.size) (hs : d.size = d0.size) {t : Nat} (ht : t < d.size) :
    Sem.run Try.prog (loadCellsFrom ⟨blk, off + t * k, none⟩ 0 k #[]) wr.drew = .ok (enc d[t]!).toArray wr.drew :=
  run_loadCellsFrom_list Try.prog _ _ _ k (E.len _) (HoldsK.cells (h.drew.holds hH hblk hs).1 E.len ht)
theorem Srt.st1 {d : Array α} {wr : World} (E : Elt enc k) (h : Srt enc k w blk off d wr) {d0 : Array α} (hH : HoldsK enc k w blk off d0) (hblk : blk < w.heap.size) (hs : d.size = d0.size) {i j : Nat} (hi : i < d.size) (x y : α) :
    Sem.run Try.prog (storeCells ⟨blk, off + i * k, none⟩ (enc y) 0) wr.drew = .ok () (wr.drew.setCells blk (off + i * k) (enc y)) ∧
    (j < d.size → Sem.run Try.prog (storeCells ⟨blk, off + j * k, none⟩ (enc x) 0) (wr.drew.setCells blk (off + i * k) (enc y)) = .ok () ((wr.drew.setCells blk (off + i * k) (enc y)).setCells blk (off + j * k) (enc x))) := by
  have hHd := (h.drew.holds hH hblk hs).1
  have bnd : ∀ z, z < d.size → z * k + k ≤ d.size * k := fun z hz => by
    have := Nat.mul_le_mul_right k (show z + 1 ≤ d.size from hz); rwa [Nat.add_mul, Nat.one_mul] at this
  refine ⟨stores_of_holds Try.prog hHd (i * k) _ (by rw [E.len, size_flatK]; exact bnd i hi) (E.one _), fun hj => ?_⟩
  exact stores_of_holds Try.prog (holds_setCells_c hHd (i * k) _ (by rw [E.len, size_flatK]; exact bnd i hi)) (j * k) _ (by rw [E.len, size_setMany, size_flatK]; exact bnd j hj) (E.one _)
theorem sym_one (E : Elt enc k) (g : Nat) (cb : Array Value) (C : CmpA g cb enc cf pr) (cap a b : Nat) (d : Array α) (w : World) (hH : HoldsK enc k w blk off d) (hblk : blk < w.heap.size) (hmb : a + 1 < b) (hb : b ≤ d.size) (hsz : d.size < 4611686018427387904)
    (h2 : SoT pr tg d (a + 1) b) (h3 : Sep tg d a (a + 1) b) :
    Calls Try.prog 60 #[.slice (some ⟨blk, off, none⟩) d.size cap, .int .i64 a, .int .i64 ((a : Int) + 1), .int .i64 b, .func (.func g) #[] cb] w fun e w' =>
      e = .returned (.tuple #[]) ∧ ∃ d' : Array α, Srt enc k w blk off d' w' ∧ PermIn a b d d' ∧ SoT pr tg d' a b := by
  have mixed : Try.prog.follows .mixedOrders = true := by kernel_rfl
  have HE := hid E
  have aE := E.ag
  have zE := E.sz
  have HH := hid hH
  have HS := hid (Srt.start hH)
  have HC := hid C
  have eg := C.eg
  have H2 := hid h2
  have H3 := hid h3
  have mono : ∀ c c', a + 1 ≤ c → c ≤ c' → c' < b → ltP pr d[c']! d[a]! = true → ltP pr d[c]! d[a]! = true := by
    intro c c' hc hcc hcb h
    by_cases he : c = c'
    · rw [he]; exact h
    · exact lt_of_bef (h3 a c (Nat.le_refl _) (by omega) hc (by omega)) ((h2 c c' hc (by omega) hcb).trans (bef_of_lt h))
  have MO := hid mono
  have t00 : ((a : Int) + 1 - (a : Int) == 1) = true := by simp; omega
  clear hH E C h2 h3 mono
  go_enter Try.func60, Try.ntmps60
  go_wp2_with fail
  go_loopw [10, 11] (fun vi vj wr => ∃ (i j : Nat), vi = .int .i64 i ∧ vj = .int .i64 j ∧ a + 1 ≤ i ∧ i ≤ j ∧ j ≤ b ∧ Hid (Srt enc k w blk off d wr) ∧ Hid (∀ c, a + 1 ≤ c → c < i → ltP pr d[c]! d[a]! = true) ∧ Hid (∀ c, j ≤ c → c < b → ltP pr d[c]! d[a]! = false)) (fun vi vj _ => (intOf vj).toNat - (intOf vi).toNat)
  case atStart => exact ⟨a + 1, b, by go_num, rfl, Nat.le_refl _, by omega, Nat.le_refl _, HS, fun c _ _ => by omega, fun c _ _ => by omega⟩
  case round =>
    obtain ⟨i, j, rfl, rfl, hi1, hij, hjb, HW, HL, HR⟩ := hrel
    by_cases hlt : i < j
    · have hltz : decide ((i : Int) < (j : Int)) = true := decide_eq_true (by omega)
      obtain ⟨hh, hhe⟩ : ∃ hh : Nat, ((i : Int) + (j : Int)) / 2 = (hh : Int) := ⟨(i + j) / 2, by omega⟩
      have hh1 : i ≤ hh := by omega
      have hh2 : hh < j := by omega
      have jh : (hh : Int) < (d.size : Int) := by omega
      have ja : (a : Int) < (d.size : Int) := by omega
      obtain ⟨xh, hxh⟩ : ∃ x, d[hh]! = x := ⟨_, rfl⟩
      obtain ⟨xa, hxa⟩ : ∃ x, d[a]! = x := ⟨_, rfl⟩
      have lh := HW.out.rd HE.out HH.out hblk rfl (t := hh) (by omega)
      have la := HW.out.rd HE.out HH.out hblk rfl (t := a) (by omega)
      rw [hxh] at lh
      rw [hxa] at la
      have hcg : ∀ n' os', Calls Try.prog g (#[.agg (enc xh).toArray, .agg (enc xa).toArray] ++ cb) (grow (wr.drewN n') os') fun e w' => e = .returned (.int .i64 (cf xh xa)) ∧ ∃ q os'', w' = grow ((grow (wr.drewN n') os').drewN q) os'' := fun n' os' => HC.out.cmp xh xa _
      have hlt2 := HC.out.lt xh xa
      obtain ⟨cc, hcc⟩ : ∃ c, cf xh xa = c := ⟨_, rfl⟩
      rw [hcc] at hlt2
      simp only [hcc] at hcg
      have HX := hid (And.intro hxh hxa)
      have HE2 := hid hhe
      clear hxh hxa hcc
      cases hlv : ltP pr xh xa with
      | true =>
        rw [hlv] at hlt2
        have HLV := hid hlv
        clear hlv
        go_wp2_with fail
        go_quiet_grown (first | (go_at_fn g; refine Calls.grown_of (hcg _ _)))
        go_wp2_with fail
        go_roundw
        case measure => simp [intOf]; omega
        case rel =>
          refine ⟨hh + 1, j, by go_num, rfl, by omega, by omega, hjb, HW.out.grown _ _, fun c h1 h2 => MO.out c hh h1 (by omega) (by omega) (by rw [HX.out.1, HX.out.2]; exact HLV.out), HR⟩
      | false =>
        rw [hlv] at hlt2
        have HLV := hid hlv
        clear hlv
        go_wp2_with fail
        go_quiet_grown (first | (go_at_fn g; refine Calls.grown_of (hcg _ _)))
        go_wp2_with fail
        go_roundw
        case measure => simp [intOf]; omega
        case rel =>
          refine ⟨i, hh, rfl, by go_num, hi1, hh1, by omega, HW.out.grown _ _, HL, ?_⟩
          show Hid _
          intro c h1 h2
          cases hv : ltP pr d[c]! d[a]! with
          | false => rfl
          | true =>
            have := MO.out hh c (by omega) h1 h2 hv
            rw [HX.out.1, HX.out.2, HLV.out] at this
            exact this.symm
    · have hltz : decide ((i : Int) < (j : Int)) = false := decide_eq_false (by omega)
      obtain rfl : i = j := by omega
      go_wp2_with fail
      go_loopw [13] (fun vk wr => ∃ (q : Nat) (dk : Array α), vk = .int .i64 q ∧ a ≤ q ∧ q ≤ i - 1 ∧ dk.size = d.size ∧ Hid (Srt enc k w blk off dk wr) ∧ Hid (∀ t, dk[t]! = d[shL a q t]!) ∧ Hid (PermIn a b d dk)) (fun vk _ => i - (intOf vk).toNat)
      case atStart =>
        refine ⟨a, d, rfl, Nat.le_refl _, by omega, rfl, HW, fun t => ?_, permIn_refl _ _ _⟩
        unfold shL
        repeat' split
        all_goals first | rfl | (congr 1 <;> omega)
      case round =>
        obtain ⟨q, dk, rfl, haq, hqi, hsk, HW2, HM, HP⟩ := hrel
        by_cases hqlt : q < i - 1
        · have t1 : decide ((q : Int) < (i : Int) - 1) = true := decide_eq_true (by omega)
          have jq : (q : Int) < (d.size : Int) := by omega
          have jq1 : (q : Int) + 1 < (d.size : Int) := by omega
          have pq : (0 : Int) ≤ (q : Int) + 1 := by omega
          have eq1 : ((q : Int) + 1).toNat = q + 1 := by omega
          obtain ⟨x0, hx0⟩ : ∃ v, dk[q]! = v := ⟨_, rfl⟩
          obtain ⟨x1, hx1⟩ : ∃ v, dk[q + 1]! = v := ⟨_, rfl⟩
          have l0 := HW2.out.rd1 HE.out HH.out hblk hsk (t := q) (by omega)
          have l1 := HW2.out.rd1 HE.out HH.out hblk hsk (t := q + 1) (by omega)
          obtain ⟨s0, s1⟩ := HW2.out.st1 HE.out HH.out hblk hsk (i := q) (j := q + 1) (by omega) x0 x1
          replace s1 := s1 (by omega)
          rw [hx0] at l0
          rw [hx1] at l1
          have n0 : (enc x0).length = k := HE.out.len _
          have n1 : (enc x1).length = k := HE.out.len _
          obtain ⟨c0, hc0⟩ : ∃ c, c = enc x0 := ⟨_, rfl⟩
          obtain ⟨c1, hc1⟩ : ∃ c, c = enc x1 := ⟨_, rfl⟩
          rw [← hc0] at l0 n0 s1
          rw [← hc1] at l1 n1 s0 s1
          have CC := hid (And.intro (And.intro hx0 hx1) (And.intro hc0 hc1))
          clear hx0 hx1 hc0 hc1
          go_wp2_with fail
          go_big_region_o
          all_goals go_wp2
          go_roundw
          case measure => simp [intOf]; omega
          case rel =>
            refine ⟨q + 1, swp dk q (q + 1), by go_num, by omega, by omega, by rw [size_swp]; exact hsk, ?_, shL_swp haq hsk (by omega) HM.out, permIn_trans _ _ _ _ _ HP.out (swp_permIn dk a b q (q + 1) (by omega) (by omega) (by omega) (by omega) (by omega))⟩
            show Hid _
            rw [CC.out.2.1, CC.out.2.2, ← CC.out.1.1, ← CC.out.1.2]
            exact HW2.out.swp HE.out hblk (by omega) (by omega)
        · have t1 : decide ((q : Int) < (i : Int) - 1) = false := decide_eq_false (by omega)
          go_wp2_with fail
          (try simp only [Exit.inBlock, Exit.then])
          refine bodyPost_ret (results_none rfl _ _ _) rfl ?_
          have hq : q = i - 1 := by omega
          refine ⟨rfl, dk, HW2.out, HP.out, ins_left (i := i) hi1 hjb H2.out (fun c h1 h2 => bef_of_lt (HL.out c h1 h2)) (fun c h1 h2 => bef_of_not (H3.out a c (Nat.le_refl _) (by omega) (by omega) h2) (HR.out c h1 h2)) (fun t => ?_)⟩
          rw [HM.out, hq]
          unfold shL
          repeat' split
          all_goals rfl
end
end Go.Proofs.Ythoblabimkfjpaa
