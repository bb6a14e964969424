/- When there are paragraphs and a page, by the model; BreaksAllowed of the model. -/
import Derived.Test.YtdpblijmagcgiaaLna
import Derived.Test.YtdpblijmagcgiaaLnx
namespace Go.Proofs.Ytdpblijmagcgiaa
open Go.RowKit Go.Joins Go.Deep Go.ChangeShapes Go.WideShapes
set_option linter.unusedVariables false
set_option linter.unusedSimpArgs false
namespace Ln
def pageB (n : Int) : Bool := decide (2 ≤ n) && decide (n ≤ 60)
def parB (zs : List Int) : Bool := decide (1 ≤ (zs.length : Int)) && decide ((zs.length : Int) ≤ 12)
def pags (zs : List Int) (n : Int) : Bool := (parB zs && allB zs 1 60) && pageB n
theorem pags_ok {zs : List Int} {n : Int} (h : pags zs n = true) : Okp zs ∧ 2 ≤ n ∧ n ≤ 60 := by
  unfold pags parB pageB at h
  simp only [Bool.and_eq_true, decide_eq_true_eq, allB_iff] at h
  exact ⟨⟨by omega, by omega, h.1.2⟩, h.2.1, h.2.2⟩
set_option maxRecDepth 100000 in
set_option maxHeartbeats 1000000 in
theorem lnPages_any {b1 g len cap : Nat} {zs : List Int} {n : Int} {w : World} (h : Ow w b1 g len cap zs) (hl : len ≤ 1048576) (v : Bool) (hv : pags zs n = v) :
    Calls Try.prog 65 #[.slice (some ⟨g, 0, none⟩) len cap, .int .i64 n] w fun e w' => e = .returned (.bool v) ∧ w = w' := by
  have hz := ow_len h
  obtain ⟨x1, hx1⟩ : ∃ x, (decide (1 ≤ (len : Int)) && decide ((len : Int) ≤ 12)) = x := ⟨_, rfl⟩
  obtain ⟨x2, hx2⟩ : ∃ x, allB zs 1 60 = x := ⟨_, rfl⟩
  obtain ⟨x3, hx3⟩ : ∃ x, (decide (2 ≤ n) && decide (n ≤ 60)) = x := ⟨_, rfl⟩
  have e : v = ((x1 && x2) && x3) := by rw [← hv]; unfold pags parB pageB; rw [hz, hx1, hx2, hx3]
  subst e
  have C1 := Lib.hid (fun W => l1In_any (len : Int) 1 12 x1 hx1 W)
  have C2 := Lib.hid (l1All_any 1 60 h hl x2 hx2)
  have C3 := Lib.hid (fun W => l1In_any n 2 60 x3 hx3 W)
  clear h hv hx1 hx2 hx3 hz
  cases x1
  · go_enter Try.func65, Try.ntmps65
    go_wp2_with fail
    refine (C1.out _).mono ?_
    rintro e w' ⟨rfl, rfl⟩
    go_wp2
    go_ret
    exact ⟨rfl, rfl⟩
  · cases x2
    · go_enter Try.func65, Try.ntmps65
      go_wp2_with fail
      refine (C1.out _).mono ?_
      rintro e w' ⟨rfl, rfl⟩
      go_wp2_with fail
      refine C2.out.mono ?_
      rintro e w' ⟨rfl, rfl⟩
      go_wp2
      go_ret
      exact ⟨rfl, rfl⟩
    · go_enter Try.func65, Try.ntmps65
      go_wp2_with fail
      refine (C1.out _).mono ?_
      rintro e w' ⟨rfl, rfl⟩
      go_wp2_with fail
      refine C2.out.mono ?_
      rintro e w' ⟨rfl, rfl⟩
      go_wp2_with fail
      refine (C3.out _).mono ?_
      rintro e w' ⟨rfl, rfl⟩
      go_wp2
      go_ret
      exact ⟨rfl, rfl⟩
def alZ (zs : List Int) (n : Int) : List Int := if pags zs n = true then alA zs zs.length else []
set_option maxRecDepth 100000 in
set_option maxHeartbeats 1000000 in
theorem sAllowed {b1 g len cap : Nat} {zs : List Int} {n : Int} {w : World} (h : Ow w b1 g len cap zs) (hl : len ≤ 1048576) :
    Calls Try.prog 37 #[.slice (some ⟨g, 0, none⟩) len cap, .int .i64 n] w (Gives (pags zs n) (alZ zs n) w) := by
  obtain ⟨v, hv⟩ : ∃ v, pags zs n = v := ⟨_, rfl⟩
  have C1 := Lib.hid (lnPages_any h hl v hv)
  rw [hv]
  cases v
  · rw [show alZ zs n = [] by unfold alZ; rw [hv]; rfl]
    clear h hv
    go_enter Try.func37, Try.ntmps37
    go_wp2_with fail
    refine C1.out.mono ?_
    rintro e w' ⟨rfl, rfl⟩
    go_wp2
    go_ret2
    exact ⟨_, rfl, World.ownsRow_nil _ _ _ _, Below.refl _ _⟩
  · rw [show alZ zs n = alA zs len by unfold alZ; rw [hv, ow_len h]; rfl]
    have C2 := Lib.hid (lnAllowed_any h (pags_ok hv).1)
    clear h hv
    go_enter Try.func37, Try.ntmps37
    go_wp2_with fail
    refine C1.out.mono ?_
    rintro e w' ⟨rfl, rfl⟩
    go_wp2_with fail
    refine C2.out.mono ?_
    rintro e w1 ⟨v, rfl, ho, hb⟩
    have HO := Lib.hid ho
    clear ho
    go_wp2
    go_ret2
    exact ⟨_, rfl, HO.out, hb⟩
end Ln
end Go.Proofs.Ytdpblijmagcgiaa
