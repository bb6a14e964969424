/- The pages of paragraphs: the model's three functions. -/
import Derived.Test.YtdpblijmagcgiaaPo0a
namespace Go.Proofs.Ytdpblijmagcgiaa
open Go.RowKit Go.Joins Go.Deep Go.ChangeShapes Go.WideShapes
set_option linter.unusedVariables false
set_option linter.unusedSimpArgs false
namespace Ln
set_option maxRecDepth 100000 in
theorem sParB {b1 g len cap : Nat} {zs : List Int} {n : Int} {w : World} (h : Ow w b1 g len cap zs) (hl : len ≤ 1048576) :
    Calls Try.prog 35 #[.slice (some ⟨g, 0, none⟩) len cap, .int .i64 n] w (Gives (pbB zs n) (pbZ zs n) w) := by
  obtain ⟨v, hv⟩ : ∃ v, pags zs n = v := ⟨_, rfl⟩
  have C1 := Lib.hid (lnPages_any h hl v hv)
  cases v
  · rw [show pbB zs n = false by unfold pbB; rw [hv]; rfl, show pbZ zs n = [] by unfold pbZ enZ; rw [hv]; rfl]
    clear h hv
    go_enter Try.func35, Try.ntmps35
    go_wp2_with fail
    refine C1.out.mono ?_
    rintro e w' ⟨rfl, rfl⟩
    go_wp2
    go_ret2
    exact ⟨_, rfl, World.ownsRow_nil _ _ _ _, Below.refl _ _⟩
  · have hk := pags_ok hv
    have C2 := Lib.hid (lnBreaks_any (n := n) h hk.1 hk.2.1 hk.2.2)
    have e1 : (ends zs n).isSome = pbB zs n := by unfold pbB; rw [hv]; rfl
    have e2 : bkZ zs n = pbZ zs n := by unfold bkZ pbZ enZ; rw [hv]; rfl
    rw [e1, e2] at C2
    obtain ⟨OS, hOS⟩ : ∃ x, pbZ zs n = x := ⟨_, rfl⟩
    obtain ⟨OK, hOK⟩ : ∃ x, pbB zs n = x := ⟨_, rfl⟩
    rw [hOS, hOK] at C2 ⊢
    clear h hv hk e1 e2 hOS hOK
    go_enter Try.func35, Try.ntmps35
    go_wp2_with fail
    refine C1.out.mono ?_
    rintro e w' ⟨rfl, rfl⟩
    go_wp2_with fail
    refine C2.out.mono ?_
    rintro e w1 ⟨v, rfl, ho, hb⟩
    have HO := Lib.hid ho
    clear ho
    go_wp2
    go_ret2
    exact ⟨_, rfl, HO.out, hb⟩
set_option maxRecDepth 100000 in
theorem sParN {b1 g len cap : Nat} {zs : List Int} {n : Int} {w : World} (h : Ow w b1 g len cap zs) (hl : len ≤ 1048576) :
    Calls Try.prog 39 #[.slice (some ⟨g, 0, none⟩) len cap, .int .i64 n] w (Ret (.tuple #[.int .i64 (ppN zs n), .bool (pbB zs n)]) w) := by
  have C := Lib.hid (sParB (n := n) h hl)
  obtain ⟨ok, hok⟩ : ∃ ok, pbB zs n = ok := ⟨_, rfl⟩
  rw [hok] at C ⊢
  cases ok
  · have he := enZ_no hok
    have HE := Lib.hid (show (0 : Int) = ppN zs n by unfold ppN; rw [he]; rfl)
    clear h hok he
    go_enter Try.func39, Try.ntmps39
    go_wp2_with fail
    refine C.out.mono ?_
    rintro e w1 ⟨v, rfl, ho, hb⟩
    clear ho
    go_wp2
    go_ret2
    exact ⟨rnb HE.out, hb⟩
  · obtain ⟨L', e1, _⟩ := enZ_ok hok
    have e3 := enZ_len zs n
    have HE := Lib.hid (show ((pbZ zs n).length : Int) + 1 = ppN zs n by unfold ppN pbZ; rw [e1, List.dropLast_concat, List.length_append]; simp)
    have e4 := pbZ_len zs n
    obtain ⟨OS, hOS⟩ : ∃ x, pbZ zs n = x := ⟨_, rfl⟩
    rw [hOS] at C HE e4
    clear h hok e1 e3 hOS
    go_enter Try.func39, Try.ntmps39
    go_wp2_with fail
    refine C.out.mono ?_
    rintro e w1 ⟨v, rfl, ho, hb⟩
    obtain ⟨a, cp, rfl⟩ := own_val ho
    clear ho
    go_wp2
    go_ret2
    exact ⟨rnb HE.out, hb⟩
/-- an empty list of the call's own -/
theorem own_empty (w : World) (base : Nat) (hb : base ≤ w.heap.size) (z : Array Value) (hz : z.size = 0) : (w.alloc (.cells z 3)).ownsRow base 3 1 (.slice (some ⟨w.heap.size, 0, none⟩) 0 0) 0 [] := by
  refine ⟨rfl, _root_.Or.inr ⟨w.heap.size, 0, z, rfl, hb, ?_, Nat.le_refl _, Nat.zero_le _, by simpa using hz, by simp⟩⟩
  show (w.heap.push _)[w.heap.size]? = _
  simp
theorem src_at {w : World} {base go n cap : Nat} {zs : List Int} (h : Ow w base go n cap zs) (z : Array Value) :
    ∀ j u, (Li.nums zs)[j]? = some u → (w.alloc (.cells z 3)).cell? ((⟨go, 0, none⟩ : Addr).add j) = some u := by
  have hl := ow_len h
  have hg := (ow_lt h).2
  intro j u hu
  have hj : j < n := by
    rcases Nat.lt_or_ge j n with h1 | h1
    · exact h1
    · rw [List.getElem?_eq_none (by rw [Li.nums_length]; omega)] at hu
      cases hu
  have e := ow_cell h hj
  have e2 : (⟨go, 0, none⟩ : Addr).add j = ⟨go, j, none⟩ := by simp [Addr.add]; intro h; exact h.symm
  rw [e2, World.cell?_alloc_lt w _ ⟨go, j, none⟩ hg, e, ← hu]
  simp [Li.nums, List.getD, List.getElem?_eq_getElem (show j < zs.length by omega)]
theorem nums_one (zs : List Int) : ∀ x ∈ Li.nums zs, x.oneCell' = true := by
  intro x hx
  obtain ⟨a, _, rfl⟩ := List.mem_map.1 hx
  rfl
/-- a copy of a list of the call's own -/
theorem l1Own_any {base n : Nat} {v : Value} {zs : List Int} {w : World} (h : w.ownsRow base 3 1 v n (Li.nums zs)) (hn : n ≤ 1048576) :
    Calls Try.prog 72 #[v] w fun e w' => ∃ v', e = .returned v' ∧ w'.ownsRow w.heap.size 3 1 v' n (Li.nums zs) ∧ Below w.heap.size w w' := by
  obtain ⟨i0, hi, hz0, hz1, hz2⟩ := info_parts Li.info3
  have O := own_empty w w.heap.size (Nat.le_refl _) #[] rfl
  have HO := Lib.hid O
  rcases Li.own_forms h with ⟨rfl, rfl⟩ | ⟨go, cap, rfl⟩
  · have hz : zs = [] := List.eq_nil_of_length_eq_zero (by have := h.1; simpa [Li.nums] using this)
    subst hz
    clear h
    go_enter Try.func72, Try.ntmps72
    go_wp2_with (first | (at_builtin; refine wpList_append_own_none rfl _ _ 22 rfl w.heap.size 3 i0 1 Try.underlying22 hi _ _ _ rfl O rfl ?_))
    go_ret
    exact ⟨_, rfl, HO.out, below_alloc1 w (.cells #[] 3)⟩
  · have hl := ow_len h
    have HL := Lib.hid hl
    have HH := Lib.hid (src_at h #[])
    have HN := Lib.hid (show (Li.nums zs).length = n * 1 by rw [Li.nums_length, hl, Nat.mul_one])
    clear h hl
    go_enter Try.func72, Try.ntmps72
    go_wp2_with (first | (at_builtin; refine wpList_append_own _ rfl _ _ 22 rfl w.heap.size 3 i0 (.int .i64 0) 1 8 Try.underlying22 hi hz0 hz1 hz2 rfl (by decide) _ _ _ rfl O ⟨go, 0, none⟩ n cap (Li.nums zs) rfl HN.out HH.out (nums_one zs) (by unfold maxLen; omega) (by omega) (by simp) ?_; intro v2 w2 hown2 hgrow2 hnil2))
    clear O
    go_ret
    refine ⟨_, rfl, by simpa using hown2, (below_alloc1 w (.cells #[] 3)).grown hgrow2 (by simp) (fun j hj => by have := (HO.out.lt j hj).1; omega)⟩
end Ln
end Go.Proofs.Ytdpblijmagcgiaa
