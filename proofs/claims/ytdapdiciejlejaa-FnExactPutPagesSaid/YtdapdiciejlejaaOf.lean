/- The model's ranges of marks. -/
import Derived.Test.YtdapdiciejlejaaMk
import Derived.Test.YtdapdiciejlejaaGm6
import Derived.Deep.AppendLies
namespace Go.Proofs.Ytdapdiciejlejaa
open Go.RowKit Go.Joins Go.Deep Go.ChangeShapes Go.WideShapes
set_option linter.unusedVariables false
set_option linter.unusedSimpArgs false
namespace Gw
open Rg Gm
theorem runs_ne (m : Nat → Bool) (j : Nat) (h : m j = true) : runs m (j + 1) ≠ [] := by
  induction j with
  | zero => unfold runs; rw [if_neg (by rw [h]; simp)]; simp
  | succ j ih =>
    unfold runs
    rw [if_neg (by rw [h]; simp)]
    split
    · rename_i hc
      simp only [Bool.and_eq_true] at hc
      have hne := ih hc.2
      intro e
      have h2 := (flat_setLast (runs m (j + 1)) ((j + 1 : Nat) : Int) hne).2
      rw [e] at h2
      exact hne (List.eq_nil_of_length_eq_zero h2.symm)
    · simp
theorem runs_step (m : Nat → Bool) (k : Nat) : runs m (k + 1) = if m k = false then runs m k else if decide (0 < k) && m (k - 1) then setLast (runs m k) (k : Int) else runs m k ++ [((k : Int), (k : Int))] := rfl
theorem runs_len (m : Nat → Bool) (k : Nat) : (runs m k).length ≤ k := by
  induction k with
  | zero => exact Nat.le_refl _
  | succ k ih =>
    rw [runs_step]
    split
    · omega
    · split
      · rename_i hc
        simp only [Bool.and_eq_true, decide_eq_true_eq] at hc
        obtain ⟨k0, rfl⟩ : ∃ k0, k = k0 + 1 := ⟨k - 1, by omega⟩
        have := (flat_setLast (runs m (k0 + 1)) ((k0 + 1 : Nat) : Int) (runs_ne m k0 hc.2)).2
        omega
      · rw [List.length_append]; simp; omega
/-- a list of pairs of the call's own -/
abbrev OwnP (W : World) (base : Nat) (v : Value) (rs : PR) : Prop := W.ownsRow base 44 2 v rs.length (Li.nums (flat rs))
theorem ownP_snoc {W : World} {base : Nat} {v : Value} {rs : PR} {x y : Int} (h : W.ownsRow base 44 2 v (rs.length + 1) (Li.nums (flat rs) ++ [Value.int .i64 x, Value.int .i64 y])) : OwnP W base v (rs ++ [(x, y)]) := by
  unfold OwnP
  rw [List.length_append, flat_append, show Li.nums (flat rs ++ flat [(x, y)]) = Li.nums (flat rs) ++ [Value.int .i64 x, Value.int .i64 y] by simp [Li.nums, flat]]
  exact h
theorem ownP_eq {W : World} {base : Nat} {v : Value} {rs rs' : PR} (h : OwnP W base v rs) (e : rs = rs') : OwnP W base v rs' := e ▸ h
theorem ownP_last {W : World} {base g cap : Nat} {rs : PR} {n0 : Nat} (x : Int) (hn : rs.length = n0 + 1) (h : W.ownsRow base 44 2 (.slice (some ⟨g, 0, none⟩) (n0 + 1) cap) (n0 + 1) (Li.nums (flat rs))) :
    OwnP (W.setCell ⟨g, n0 * 2 + 1, none⟩ (.int .i64 x)) base (.slice (some ⟨g, 0, none⟩) (n0 + 1) cap) (setLast rs x) := by
  have hne : rs ≠ [] := by intro e; rw [e] at hn; simp at hn
  obtain ⟨e1, e2⟩ := flat_setLast rs x hne
  have hst := (h.stored (n0 * 2 + 1) (.int .i64 x)).1
  unfold OwnP
  rw [e1, e2, hn, show n0 + 1 - 1 = n0 by omega]
  have e3 : Li.nums ((flat rs).set (n0 * 2 + 1) x) = (Li.nums (flat rs)).set (n0 * 2 + 1) (.int .i64 x) := by unfold Li.nums; rw [List.map_set]
  rw [e3]
  exact hst
theorem news2 (w : World) (x y : Value) (T : TypeId) : ∀ j u, [x, y][j]? = some u → (w.alloc (.cells #[x, y] T)).cell? ((⟨w.heap.size, 0, none⟩ : Addr).add j) = some u := by
  intro j u h
  match j, h with
  | 0, h => simp at h; subst h; simp [Addr.add]
  | 1, h => simp at h; subst h; simp [Addr.add]
theorem rr {v v' : Value} {b b' : Bool} (h1 : v = v') (h2 : b = b') : Ending.returned (.tuple #[v, .bool b]) = .returned (.tuple #[v', .bool b']) := by rw [h1, h2]
/-- the answer to pairs: they, if they are few enough -/
def GivesP (rs : PR) (W : World) (e : Ending) (w' : World) : Prop := Rg.Gives (okR rs) (lenR rs) (listR rs) W e w'
theorem GivesP.yes {rs : PR} {W w' : World} {v : Value} (h : rs.length ≤ 20) (ho : OwnP w' W.heap.size v rs) (hb : Below W.heap.size W w') : GivesP rs W (.returned (.tuple #[v, .bool true])) w' := by
  obtain ⟨h1, h2, h3⟩ := R_yes h
  exact ⟨v, rr rfl h1.symm, by rw [h2, h3]; exact ho, hb⟩
theorem GivesP.no {rs : PR} {W w' : World} (h : ¬ rs.length ≤ 20) (hb : Below W.heap.size W w') : GivesP rs W (.returned (.tuple #[.slice none 0 0, .bool false])) w' := by
  obtain ⟨h1, h2, h3⟩ := R_no h
  exact ⟨_, rr rfl h1.symm, by rw [h2, h3]; exact World.ownsRow_nil _ _ _ _, hb⟩
theorem gives_on {ok : Bool} {n : Nat} {os : List Int} {W W1 w' : World} {e : Ending} (hb : Below W.heap.size W W1) (h : Rg.Gives ok n os W1 e w') : Rg.Gives ok n os W e w' := by
  obtain ⟨v, rfl, ho, hb2⟩ := h
  exact ⟨v, rfl, Li.own_le ho hb.size, hb.trans (hb2.mono hb.size)⟩
set_option maxRecDepth 100000 in
set_option maxHeartbeats 1000000 in
theorem ixOf_some {b1 g N : Nat} {m : Nat → Bool} {w : World} (h : Marks w b1 g N m) (hN : N ≤ 4002) :
    Calls Try.prog 36 #[.slice (some ⟨g, 0, none⟩) N N] w (GivesP (runs m N) w) := by
  obtain ⟨i0, hi, hz0, hz1, hz2⟩ := info_parts infoG
  have HM := Lib.hid h
  clear h
  go_enter Try.func36, Try.ntmps36
  go_wp2
  go_loopw [4, 9] (fun v i wr => ∃ (k : Nat) (vv : Value), vv = v ∧ k ≤ N ∧ i = .int .i64 (k : Int) ∧ OwnP wr w.heap.size vv (runs m k) ∧ Below w.heap.size w wr) (fun _ i _ => ((N : Int) - intOf i).toNat)
  case atStart => exact ⟨0, _, rfl, by omega, rfl, World.ownsRow_nil _ _ _ _, Below.refl _ _⟩
  case round =>
    obtain ⟨k, vv, rfl, hk, rfl, hown, hb⟩ := hrel
    have hL := runs_len m k
    by_cases hlt : (k : Int) < N
    · have hc := marks_cell (Li.own_on HM.out hb) (k := k) (by omega)
      have ES := Lib.hid (runs_step m k)
      cases hx : m k
      · rw [hx] at hc
        have EN := Lib.hid (show runs m (k + 1) = runs m k by rw [ES.out, if_pos hx])
        have HOW := Lib.hid hown
        have HB := Lib.hid hb
        clear hown hb hx
        go_wp2
        go_roundw
        case rel => exact ⟨k + 1, _, rfl, by omega, by go_num, ownP_eq HOW.out EN.out.symm, HB.out⟩
        case measure => simp [intOf]; omega
      · rw [hx] at hc
        by_cases hp : 0 < k ∧ m (k - 1) = true
        · obtain ⟨k0, hk0⟩ : ∃ k0, k = k0 + 1 := ⟨k - 1, by omega⟩
          have HK0 := Lib.hid hk0
          have hp2 := hp.2
          rw [show k - 1 = k0 by omega] at hp2
          have hc0 := marks_cell (Li.own_on HM.out hb) (k := k0) (by omega)
          rw [hp2] at hc0
          have hne := runs_ne m k0 hp2
          rw [← hk0] at hne
          have EN := Lib.hid (show runs m (k + 1) = setLast (runs m k) (k : Int) by
            rw [ES.out, if_neg (by rw [hx]; simp), if_pos (by simp only [Bool.and_eq_true, decide_eq_true_eq]; exact hp)])
          obtain ⟨rs, hrs⟩ : ∃ rs, runs m k = rs := ⟨_, rfl⟩
          rw [hrs] at hown hL hne EN
          obtain ⟨n0, hn0⟩ : ∃ n0, rs.length = n0 + 1 := ⟨rs.length - 1, by have := List.length_pos_iff.2 hne; omega⟩
          unfold OwnP at hown
          rw [hn0] at hown hL
          rcases Li.own_forms hown with ⟨_, hz⟩ | ⟨g2, cp, rfl⟩
          · omega
          have hcell : ∃ u, wr.cell? ⟨g2, n0 * 2 + 1, none⟩ = some u := by
            rw [hown.cellAt (n0 * 2 + 1) (by omega)]
            exact ⟨_, List.getElem?_eq_getElem (by rw [hown.1]; omega)⟩
          obtain ⟨u, hcell⟩ := hcell
          have hfr := hown.frozenAt (n0 * 2 + 1)
          have HST := Lib.hid (ownP_eq (ownP_last (k : Int) hn0 hown) EN.out.symm)
          have HB2 := Lib.hid (hb.setCell (p := ⟨g2, n0 * 2 + 1, none⟩) (hown.lt g2 rfl).1 (.int .i64 (k : Int)))
          have t6 : decide ((0 : Int) < (k : Int)) = true := by rw [decide_eq_true_eq]; omega
          have e5 : IntKind.i64.wrap ((k : Int) - 1) = (k0 : Int) := by rw [show (k : Int) - 1 = (k0 : Int) by omega]; exact IntWalk.i64_in _ (by omega)
          have e6 : wrap64 ((k : Int) - 1) = (k0 : Int) := by rw [show (k : Int) - 1 = (k0 : Int) by omega]; exact IntWalk.wrap64_in _ (by omega)
          have e7 : (k0 : Int) < (N : Int) := by omega
          have e8 : (0 : Int) ≤ (k0 : Int) := by omega
          have y1 : wrap64 ((n0 : Int) + 1 - 1) = (n0 : Int) := by rw [show (n0 : Int) + 1 - 1 = (n0 : Int) by omega]; exact IntWalk.wrap64_in _ (by omega)
          have y2 : wrap64 (((n0 + 1 : Nat) : Int) - 1) = (n0 : Int) := by rw [show ((n0 + 1 : Nat) : Int) - 1 = (n0 : Int) by omega]; exact IntWalk.wrap64_in _ (by omega)
          have y4 : (0 : Int) ≤ (n0 : Int) := by omega
          clear hown hb hx hp hp2 hk0 hrs hn0 hne
          go_wp2
          go_roundw
          case rel => exact ⟨k + 1, _, rfl, by omega, by go_num, HST.out, HB2.out⟩
          case measure => simp [intOf]; omega
        · have EN := Lib.hid (show runs m (k + 1) = runs m k ++ [((k : Int), (k : Int))] by
            rw [ES.out, if_neg (by rw [hx]; simp), if_neg (by intro h; simp only [Bool.and_eq_true, decide_eq_true_eq] at h; exact hp h)])
          obtain ⟨rs, hrs⟩ : ∃ rs, runs m k = rs := ⟨_, rfl⟩
          rw [hrs] at hown hL EN
          have hs := hb.size
          have HOX := Lib.hid (World.ownsRow.alloc hown (.cells #[.int .i64 (k : Int), .int .i64 (k : Int)] 44))
          have HLT := Lib.hid (fun j hj => (hown.lt j hj).1)
          have HBX := Lib.hid (hb.alloc hb.size (.cells #[.int .i64 (k : Int), .int .i64 (k : Int)] 44))
          have HC1 := Lib.hid (fun k0 (h0 : k0 < N) => marks_cell (Li.own_on HM.out hb) (k := k0) h0)
          have HX := Lib.hid hx
          have HP := Lib.hid hp
          clear hown hb hx hp hrs
          by_cases h0 : k = 0
          · subst h0
            go_wp2_with (first | (at_builtin; refine wpList_append_own _ rfl _ _ 24 rfl w.heap.size 44 i0 (.agg #[.int .i64 0, .int .i64 0]) 2 16 Try.underlying24 hi hz0 hz1 hz2 rfl (by decide) vv rs.length (Li.nums (flat rs)) rfl HOX.out ⟨wr.heap.size, 0, none⟩ 1 1 [.int .i64 ((0 : Nat) : Int), .int .i64 ((0 : Nat) : Int)] rfl rfl (news2 _ _ _ _) (fun u hu => by simp at hu; subst hu; rfl) (by unfold maxLen; omega) (by omega) (by simp; omega) ?_; intro v' w' ho' hg' hn'))
            have H2 := Lib.hid (ownP_eq (ownP_snoc ho') EN.out.symm)
            have HB2 := Lib.hid (HBX.out.grown hg' HBX.out.size (fun j hj => HLT.out j hj))
            clear ho' hg' hn'
            go_roundw
            case rel => exact ⟨1, _, rfl, by omega, by go_num, H2.out, HB2.out⟩
            case measure => simp [intOf]; omega
          · obtain ⟨k0, hk0⟩ : ∃ k0, k = k0 + 1 := ⟨k - 1, by omega⟩
            have hc0 := HC1.out k0 (by omega)
            rw [show m k0 = false from by
              cases e : m k0 with
              | false => rfl
              | true => exact absurd ⟨by omega, by rw [show k - 1 = k0 by omega]; exact e⟩ HP.out] at hc0
            have t6 : decide ((0 : Int) < (k : Int)) = true := by rw [decide_eq_true_eq]; omega
            have e5 : IntKind.i64.wrap ((k : Int) - 1) = (k0 : Int) := by rw [show (k : Int) - 1 = (k0 : Int) by omega]; exact IntWalk.i64_in _ (by omega)
            have e6 : wrap64 ((k : Int) - 1) = (k0 : Int) := by rw [show (k : Int) - 1 = (k0 : Int) by omega]; exact IntWalk.wrap64_in _ (by omega)
            have e7 : (k0 : Int) < (N : Int) := by omega
            have e8 : (0 : Int) ≤ (k0 : Int) := by omega
            clear hk0
            go_wp2_with (first | (at_builtin; refine wpList_append_own _ rfl _ _ 24 rfl w.heap.size 44 i0 (.agg #[.int .i64 0, .int .i64 0]) 2 16 Try.underlying24 hi hz0 hz1 hz2 rfl (by decide) vv rs.length (Li.nums (flat rs)) rfl HOX.out ⟨wr.heap.size, 0, none⟩ 1 1 [.int .i64 (k : Int), .int .i64 (k : Int)] rfl rfl (news2 _ _ _ _) (fun u hu => by simp at hu; subst hu; rfl) (by unfold maxLen; omega) (by omega) (by simp; omega) ?_; intro v' w' ho' hg' hn'))
            have H2 := Lib.hid (ownP_eq (ownP_snoc ho') EN.out.symm)
            have HB2 := Lib.hid (HBX.out.grown hg' HBX.out.size (fun j hj => HLT.out j hj))
            clear ho' hg' hn'
            go_roundw
            case rel => exact ⟨k + 1, _, rfl, by omega, by go_num, H2.out, HB2.out⟩
            case measure => simp [intOf]; omega
    · obtain rfl : k = N := by omega
      obtain ⟨rs, hrs⟩ : ∃ rs, runs m k = rs := ⟨_, rfl⟩
      rw [hrs] at hown hL
      have HR := Lib.hid hrs
      clear hrs
      have hform : ∃ a cp, vv = .slice a rs.length cp := by
        rcases Li.own_forms hown with ⟨h1, h2⟩ | ⟨g2, cp, h1⟩
        · exact ⟨_, _, by rw [h1, h2]⟩
        · exact ⟨_, _, h1⟩
      obtain ⟨a, cp, rfl⟩ := hform
      by_cases h20 : rs.length ≤ 20
      · have t1 : decide ((20 : Int) < (rs.length : Int)) = false := by simp; omega
        have HOW := Lib.hid hown
        clear hown
        go_wp2
        go_ret2
        rw [HR.out]
        exact GivesP.yes h20 HOW.out hb
      · have t1 : decide ((20 : Int) < (rs.length : Int)) = true := by simp; omega
        clear hown
        go_wp2
        go_ret2
        rw [HR.out]
        exact GivesP.no h20 hb
end Gw
end Go.Proofs.Ytdapdiciejlejaa
