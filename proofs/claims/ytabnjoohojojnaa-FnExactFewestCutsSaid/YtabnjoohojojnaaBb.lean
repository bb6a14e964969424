/- Pages as they are read, by the model. -/
import Derived.Test.YtabnjoohojojnaaBa

namespace Go.Proofs.Ytabnjoohojojnaa
open Go.RowKit Go.Joins Go.Deep Go.ChangeShapes Go.WideShapes
set_option linter.unusedVariables false
set_option linter.unusedSimpArgs false
namespace Ln
def Gives (ok : Bool) (os : List Int) (W : World) (e : Ending) (w' : World) : Prop :=
  ∃ v, e = .returned (.tuple #[v, .bool ok]) ∧ w'.ownsRow W.heap.size 3 1 v os.length (Li.nums os) ∧ Below W.heap.size W w'
def p1 (z : Int) : Int := if z < 0 then -2 * z else 2 * z - 1
def p2 (z : Int) : Int := if z < 0 then -2 * z - 1 else 2 * z
set_option maxRecDepth 100000 in
theorem biPages_any (z : Int) (h1 : -8 ≤ z) (h2 : z ≤ 8) (w : World) : Calls Try.prog 45 #[.int .i64 z] w fun e w' => e = .returned (.tuple #[.int .i64 (p1 z), .int .i64 (p2 z)]) ∧ w = w' := by
  by_cases c : z < 0
  · have e1 : p1 z = -2 * z := by unfold p1; rw [if_pos c]
    have e2 : p2 z = -2 * z - 1 := by unfold p2; rw [if_pos c]
    rw [e1, e2]
    clear e1 e2
    go_enter Try.func45, Try.ntmps45
    go_wp2
    go_ret2
    exact ⟨rfl, rfl⟩
  · have e1 : p1 z = 2 * z - 1 := by unfold p1; rw [if_neg c]
    have e2 : p2 z = 2 * z := by unfold p2; rw [if_neg c]
    rw [e1, e2]
    clear e1 e2
    go_enter Try.func45, Try.ntmps45
    go_wp2
    go_ret2
    exact ⟨rfl, rfl⟩
/-- the pages of the first k leaves -/
def rdL (zs : List Int) : Nat → List Int
  | 0 => []
  | k + 1 => rdL zs k ++ [p1 (zs.getD k 0), p2 (zs.getD k 0)]
theorem rdL_step (zs : List Int) (k : Nat) : rdL zs (k + 1) = rdL zs k ++ [p1 (zs.getD k 0), p2 (zs.getD k 0)] := rfl
theorem rdL_len (zs : List Int) : ∀ k, (rdL zs k).length = 2 * k
  | 0 => rfl
  | k + 1 => by rw [rdL_step, List.length_append, rdL_len zs k]; simp; omega
def rdZ (zs : List Int) : List Int := if bnd zs = true then rdL zs zs.length else []
theorem rdZ_len (zs : List Int) : (rdZ zs).length ≤ 1048576 := by
  unfold rdZ
  by_cases c : bnd zs = true
  · rw [if_pos c, rdL_len]; have := ((bnd_iff zs).1 c).2.1; omega
  · rw [if_neg c]; simp
theorem nums_two (l : List Int) (a b : Int) : Li.nums (l ++ [a, b]) = Li.nums l ++ [.int .i64 a, .int .i64 b] := by simp [Li.nums]
theorem cell_two_new (w : World) (a b : Value) (T : TypeId) : ∀ j u, ([a, b] : List Value)[j]? = some u → (w.alloc (.cells #[a, b] T)).cell? ((⟨w.heap.size, 0, none⟩ : Addr).add j) = some u := by
  intro j u hu
  have e2 : (⟨w.heap.size, 0, none⟩ : Addr).add j = ⟨w.heap.size, j, none⟩ := by simp [Addr.add]; intro h; exact h.symm
  rw [e2]
  have hh := heap_alloc_new w (.cells #[a, b] T)
  rcases j with _ | _ | j
  · simp at hu; subst hu; simp only [World.cell?]; rw [hh]; rfl
  · simp at hu; subst hu; simp only [World.cell?]; rw [hh]; rfl
  · simp at hu
set_option maxRecDepth 100000 in
set_option maxHeartbeats 4000000 in
theorem sPagesRead {b1 g len cap : Nat} {zs : List Int} {w : World} (h : Ow w b1 g len cap zs) (hl : len ≤ 1048576) :
    Calls Try.prog 19 #[.slice (some ⟨g, 0, none⟩) len cap] w (Gives (bnd zs) (rdZ zs) w) := by
  obtain ⟨v, hv⟩ : ∃ v, bnd zs = v := ⟨_, rfl⟩
  have C1 := Lib.hid (biGood_any h hl v hv)
  rw [hv]
  cases v
  · rw [show rdZ zs = [] by unfold rdZ; rw [hv]; rfl]
    clear h hv
    go_enter Try.func19, Try.ntmps19
    go_wp2_with fail
    refine C1.out.mono ?_
    rintro e w' ⟨rfl, rfl⟩
    go_wp2
    go_ret2
    exact ⟨_, rfl, World.ownsRow_nil _ _ _ _, Below.refl _ _⟩
  · have hz := ow_len h
    rw [show rdZ zs = rdL zs len by unfold rdZ; rw [hv, hz]; rfl]
    have HO := Lib.hid h
    have HB8 := Lib.hid ((bnd_iff zs).1 hv)
    have h8 : len ≤ 8 := by have := HB8.out.2.1; omega
    have HK := Lib.hid (fun k (hk : k < len) => by have := HB8.out.2.2.1 k (by omega); rw [hz] at this; exact this)
    have HL := Lib.hid (rdL_len zs)
    obtain ⟨i0, hi, hz0, hz1, hz2⟩ := info_parts Li.info3
    clear h hv hz
    go_enter Try.func19, Try.ntmps19
    go_wp2_with fail
    refine C1.out.mono ?_
    rintro e w' ⟨rfl, rfl⟩
    go_wp2
    go_loopw [4, 14] (fun v i wr => ∃ (k : Nat), k ≤ len ∧ i = .int .i64 (k : Int) ∧ wr.ownsRow w.heap.size 3 1 v (2 * k) (Li.nums (rdL zs k)) ∧ Below w.heap.size w wr) (fun _ i _ => ((len : Int) - intOf i).toNat)
    case atStart => exact ⟨0, by omega, rfl, World.ownsRow_nil _ _ _ _, Below.refl _ _⟩
    case round =>
      obtain ⟨k, hk, rfl, hown, hb⟩ := hrel
      have HB := Lib.hid hb
      have hsw := hb.size
      clear hb
      by_cases hlt : (k : Int) < len
      · obtain ⟨z, HZK, hc⟩ := ow_at (Li.own_on HO.out HB.out) (k := k) (by omega)
        have hzb := HK.out k (by omega)
        rw [HZK.out] at hzb
        have z1 : -8 ≤ z := by omega
        have z2 : z ≤ 8 := by omega
        clear hzb
        obtain ⟨A, hA⟩ : ∃ A, p1 z = A := ⟨_, rfl⟩
        obtain ⟨B, hB⟩ : ∃ B, p2 z = B := ⟨_, rfl⟩
        have CN := Lib.hid (fun w => biPages_any z z1 z2 w)
        have HN := Lib.hid (rdL_step zs k)
        rw [HZK.out, hA, hB] at HN
        rw [hA, hB] at CN
        have HOw := Lib.hid (hown.alloc (.cells #[.int .i64 A, .int .i64 B] 3))
        have HLT := Lib.hid (fun j hj => (hown.lt j hj).1)
        clear hA hB hown
        go_wp2_with (first | (go_at_call 45; refine (CN.out _).mono ?_; rintro e w' ⟨rfl, rfl⟩) | (at_builtin; refine wpList_append_own _ rfl _ _ 22 rfl w.heap.size 3 i0 (.int .i64 0) 1 8 Try.underlying22 hi hz0 hz1 hz2 rfl (by decide) _ _ _ rfl HOw.out ⟨_, 0, none⟩ 2 2 [.int .i64 A, .int .i64 B] rfl rfl (cell_two_new _ _ _ _) (fun x hx => by simp at hx; rcases hx with rfl | rfl <;> rfl) (by unfold maxLen; omega) (by omega) (by simp; omega) ?_; intro v3 w3 hown3 hgrow3 _))
        have HB4 := Lib.hid (Below.grown (HB.out.alloc HB.out.size (.cells #[.int .i64 A, .int .i64 B] 3)) hgrow3 (by simp; omega) HLT.out)
        have HO3 := Lib.hid (show w3.ownsRow w.heap.size 3 1 v3 (2 * (k + 1)) (Li.nums (rdL zs (k + 1))) by rw [HN.out, nums_two]; exact hown3)
        clear hown3 hgrow3
        go_roundw
        case rel => exact ⟨k + 1, by omega, by go_num, HO3.out, HB4.out⟩
        case measure => simp [intOf]; omega
      · have HE := Lib.hid (show k = len by omega)
        have HOw := Lib.hid hown
        clear hown
        go_wp2
        go_ret2
        exact ⟨_, rfl, by rw [← HE.out, HL.out]; exact HOw.out, HB.out⟩
end Ln
end Go.Proofs.Ytabnjoohojojnaa
