/- What the laws ask of package policy; alive; PolicyTells. -/
import Derived.Test.YtcmkcloapenpnaaDoorPlO
import Derived.Test.YtcmkcloapenpnaaDoorWdO
namespace Go.Proofs.YtcmkcloapenpnaaDoor
open Go.RowKit
set_option maxHeartbeats 6400000
set_option maxRecDepth 100000
structure PolicySpec (L : World → Prop) (fParse fShow : Nat) : Prop where
  on : ∀ w w' : World, L w → Below w.heap.size w w' → L w'
  parse : ∀ (s : List UInt8) (w : World), L w → s.length ≤ 100000000 → Calls Tryd.prog fParse #[.string (txt s)] w (ParseAns (parseS s) w)
  shows : ∀ (A : Option Addr) (n c : Nat) (qs : List (Rul × WSl)) (w : World), L w → RRul w A n c qs → n ≤ 20 → (∀ q ∈ qs, Fair q.1 ∧ Named q.1) →
    Calls Tryd.prog fShow #[.slice A n c] w fun e w' => e = .returned (.string (txt (showAll (qs.map (·.1))))) ∧ Below w.heap.size w w'
theorem num13_any (x : Int) (w : World) : Calls Tryd.prog 20 #[.int .i64 x] w fun e w' => e = .returned (.int .i64 x) ∧ w = w' := by
  go_enter Tryd.func20, Tryd.ntmps20
  go_wp2_with fail
  go_ret
  exact ⟨rfl, rfl⟩
def ra3 : Rul := { noRul with name := [97], pri := 3, x := { noWnt with too := 1 } }
def sa3 : List UInt8 := [114, 117, 108, 101, 32, 97, 32, 51, 32, 102, 114, 111, 109, 32, 48, 32, 116, 111, 32, 49, 59]
theorem parse_a3 : parseS sa3 = ([ra3], -1, 0) := by rfl
theorem parse_nil : parseS [] = ([], -1, 0) := by rfl
/-- What Parse tells, by its parts. -/
theorem parse_out {f : Nat} {s : List UInt8} {w : World} {L : List Rul} {a e : Int} {m : Nat} (hp : parseS s = (L, a, e)) (hm : L.length = m) (h : Calls Tryd.prog f #[.string (txt s)] w (ParseAns (parseS s) w)) :
    Calls Tryd.prog f #[.string (txt s)] w fun x w' => ∃ A c qs, x = .returned (.tuple #[.slice A m c, .int .i64 a, .int .i64 e]) ∧ qs.map (·.1) = L ∧ RRul w' A m c qs ∧ Below w.heap.size w w' := by
  rw [hp] at h
  refine h.mono ?_
  rintro x w' ⟨hb, A, c, qs, h1, rfl, h2⟩
  simp only at h1
  have hl : qs.length = m := by rw [← hm, ← h1, List.length_map]
  rw [hl] at h2
  exact ⟨A, c, qs, by rw [hl], h1, h2, hb⟩
theorem alive13 {L : World → Prop} (h : PolicySpec L 19 22) (w : World) (hL : L w) : Calls Tryd.prog 18 #[] w fun e w' => e = .returned (.bool true) ∧ Below w.heap.size w w' := by
  have HK := hid (fun W hb => h.on w W hL hb)
  have H0 : Hid (∀ W : World, L W → Calls Tryd.prog 19 #[.string ⟨#[]⟩] W fun e w' => ∃ A c, e = .returned (.tuple #[.slice A 0 c, .int .i64 (-1), .int .i64 0]) ∧ Below W.heap.size W w') := fun W hW =>
    (parse_out (m := 0) parse_nil rfl (h.parse [] W hW (by decide))).mono fun _ _ ⟨A, c, qs, h1, _, _, h3⟩ => ⟨A, c, h1, h3⟩
  have H1 : Hid (∀ W : World, L W → Calls Tryd.prog 19 #[.string ⟨#[114, 117, 108, 101, 32, 97, 32, 51, 32, 102, 114, 111, 109, 32, 48, 32, 116, 111, 32, 49, 59]⟩] W fun e w' => ∃ b off c, e = .returned (.tuple #[.slice (some ⟨b, off, none⟩) 1 c, .int .i64 (-1), .int .i64 0]) ∧ w'.cell? ⟨b, off, none⟩ = some (.string (txt [97])) ∧ w'.cell? ⟨b, off + 1, none⟩ = some (.int .i64 3) ∧ Below W.heap.size W w') := fun W hW => by
    refine (parse_out (m := 1) parse_a3 rfl (h.parse sa3 W hW (by decide))).mono ?_
    rintro e w' ⟨A, c, qs, rfl, hq, hr, hb⟩
    obtain ⟨b, off, rfl, _, hc⟩ := hr.row (by omega)
    have hl := hr.len
    obtain ⟨q, hq0⟩ : ∃ q, qs[0]? = some q := ⟨qs[0], List.getElem?_eq_getElem (by omega)⟩
    have hq1 : q.1 = ra3 := by
      have h1 : (qs.map (·.1))[0]? = some q.1 := by rw [List.getElem?_map, hq0]; rfl
      rw [hq] at h1
      simp only [List.getElem?_cons_zero, Option.some.injEq] at h1
      exact h1.symm
    have c0 := hc 0 q 0 (.string (txt q.1.name)) hq0 rfl
    have c1 := hc 0 q 1 (.int .i64 q.1.pri) hq0 rfl
    rw [hq1] at c0 c1
    rw [show ra3.name = [97] from rfl] at c0
    rw [show ra3.pri = 3 from rfl] at c1
    rw [Nat.zero_mul, Nat.add_zero] at c0 c1
    exact ⟨b, off, c, rfl, c0, c1, hb⟩
  have HN := hid (fun W => num13_any 0 W)
  have htl : (txt [97]).toList = [97] := txt_list _
  clear h
  go_enter Tryd.func18, Tryd.ntmps18
  go_wp2_with (first
    | (go_at_call 19; (with_reducible refine (H0.out _ hL).mono ?_); rintro e' w1 ⟨A1, c1, rfl, hb1⟩)
    | (go_at_call 19; (with_reducible refine (H1.out _ (HK.out _ hb1)).mono ?_); rintro e' w2 ⟨b, off, c2, rfl, k0, k1, hb2⟩)
    | (go_at_call 20; (with_reducible refine (HN.out _).mono ?_); rintro _ _ ⟨rfl, rfl⟩))
  go_ret
  exact ⟨rfl, hb1.trans (hb2.mono hb1.size)⟩
end Go.Proofs.YtcmkcloapenpnaaDoor
