/- What impl.ParsePages answers of a text of at most 100 bytes: the pages of which it is the text, and nothing of every other one. The library's listed tables and errors are taken to read as its own text lays them, its variable MaxLen as any integer. -/
import Derived.Test.YtocmgggggdcebaaDoorCspec
import Derived.Test.YtocmgggggdcebaaDoorImplC
import Derived.Test.YtocmgggggdcebaaDoorShelf2
import Derived.Lib.AtoiAllCases
import Derived.Lib.AtoiErrMem
namespace Go.Proofs.YtocmgggggdcebaaDoor
open Go.RowKit
set_option linter.unusedVariables false
namespace P
/-- what the library's variables hold -/
def Env (W : World) : Prop := (∃ m : Int, W.cell? ⟨1, 0, none⟩ = some (.int .i64 m)) ∧ (∃ t p, W.cell? ⟨4, 0, none⟩ = some (.iface t p)) ∧ (∃ t p, W.cell? ⟨5, 0, none⟩ = some (.iface t p))
theorem cell_lt {W : World} {b o : Nat} {v : Value} (h : W.cell? ⟨b, o, none⟩ = some v) : b < W.heap.size := by
  rcases Nat.lt_or_ge b W.heap.size with h' | h'
  · exact h'
  · simp [World.cell?, Array.getElem?_eq_none h'] at h
theorem Env.on {W W' : World} (h : Env W) (hb : Below W.heap.size W W') : Env W' := by
  obtain ⟨⟨m, h1⟩, ⟨t, p, h2⟩, ⟨t', p', h3⟩⟩ := h
  exact ⟨⟨m, (hb.cell (p := ⟨1, 0, none⟩) (cell_lt h1)).trans h1⟩, ⟨t, p, (hb.cell (p := ⟨4, 0, none⟩) (cell_lt h2)).trans h2⟩, ⟨t', p', (hb.cell (p := ⟨5, 0, none⟩) (cell_lt h3)).trans h3⟩⟩
theorem below_dN {B : Nat} {a w : World} (h : Below B a w) (n : Nat) : Below B a (w.drewN n) := h.trans ⟨rfl, rfl, rfl, Nat.le_refl _, fun _ _ => rfl⟩
theorem atoi_ok (p : List UInt8) (hp : p.length ≤ 100) (v : Int) (h : Lib.atoiAll p = .ok v) (W : World) :
    Calls Tryd.prog 43 #[.string ⟨p.toArray⟩] W fun e w' => e = .returned (.tuple #[.int .i64 v, .nilIface]) ∧ Below W.heap.size W w' := by
  have hs : (⟨p.toArray⟩ : ByteArray).size = p.length := by show p.toArray.size = _; simp
  refine (Tryd.strconv_Atoi_ok ⟨p.toArray⟩ (by omega) v (by simpa using h) W).mono ?_
  rintro e w' ⟨rfl, rfl | ⟨t, rfl⟩⟩
  · exact ⟨rfl, Below.refl _ _⟩
  · exact ⟨rfl, Lib.bytesWorld_below _ _ _⟩
theorem atoi_no (p : List UInt8) (hp : p.length ≤ 100) (h : ∀ v, Lib.atoiAll p ≠ .ok v) (W : World) (hE : Env W) :
    Calls Tryd.prog 43 #[.string ⟨p.toArray⟩] W fun e w' => ∃ (v : Int) (T : TypeId) (q : Value), e = .returned (.tuple #[.int .i64 v, .iface T q]) ∧ Below W.heap.size W w' := by
  have hs : (⟨p.toArray⟩ : ByteArray).size = p.length := by show p.toArray.size = _; simp
  obtain ⟨_, ⟨t, q, h2⟩, ⟨t', q', h3⟩⟩ := hE
  rcases hc : Lib.atoiAll p with v | _ | _
  · exact absurd hc (h v)
  · refine (Tryd.strconv_Atoi_syntax ⟨p.toArray⟩ (by omega) (by rw [show (⟨p.toArray⟩ : ByteArray).data.toList = p from by simp]; exact hc) (.iface t q) W h2 (Or.inr ⟨t, q, rfl⟩)).mono ?_
    rintro e w' ⟨N, rfl, _, _, hb⟩
    exact ⟨_, _, _, rfl, hb⟩
  · refine (Tryd.strconv_Atoi_range ⟨p.toArray⟩ (by omega) (by simpa using hc) (.iface t' q') W h3 (Or.inr ⟨t', q', rfl⟩)).mono ?_
    rintro e w' ⟨N, rfl, _, _, hb⟩
    exact ⟨_, _, _, rfl, hb⟩
theorem hasPage_yes (n p : Int) (h1 : 1 ≤ p) (h2 : p ≤ n) (w : World) :
    Calls Tryd.prog 44 #[.int .i64 n, .int .i64 p] w fun e w' => e = .returned (.bool true) ∧ w = w' := by
  go_enter Tryd.func44, Tryd.ntmps44
  go_wp2
  go_ret
  exact ⟨rfl, rfl⟩
theorem hasPage_no (n p : Int) (h : ¬ 1 ≤ p ∨ ¬ p ≤ n) (w : World) :
    Calls Tryd.prog 44 #[.int .i64 n, .int .i64 p] w fun e w' => e = .returned (.bool false) ∧ w = w' := by
  by_cases c1 : 1 ≤ p <;> by_cases c2 : p ≤ n <;> first | (exfalso; omega) | skip
  all_goals
    clear h
    go_enter Tryd.func44, Tryd.ntmps44
    go_wp2
    go_ret
    exact ⟨rfl, rfl⟩
theorem rdI_cases (p : List UInt8) : (∃ v, Lib.atoiAll p = .ok v ∧ 1 ≤ v ∧ v ≤ 2000 ∧ rdI p = v) ∨ (rdI p = -1 ∧ ((∃ v, Lib.atoiAll p = .ok v ∧ ¬ (1 ≤ v ∧ v ≤ 2000)) ∨ ∀ v, Lib.atoiAll p ≠ .ok v)) := by
  unfold rdI
  rcases h : Lib.atoiAll p with v | _ | _
  · by_cases c : 1 ≤ v ∧ v ≤ 2000
    · exact Or.inl ⟨v, rfl, c.1, c.2, by simp [c]⟩
    · exact Or.inr ⟨by simp [c], Or.inl ⟨v, rfl, c⟩⟩
  · exact Or.inr ⟨rfl, Or.inr (fun v e => by cases e)⟩
  · exact Or.inr ⟨rfl, Or.inr (fun v e => by cases e)⟩
theorem page_yes (p : List UInt8) (hp : p.length ≤ 100) (v : Int) (hv : rdI p = v) (hv1 : ¬ v = -1) (W : World) :
    Calls Tryd.prog 35 #[.string ⟨p.toArray⟩] W fun e w' => e = .returned (.tuple #[.int .i64 v, .bool true]) ∧ 1 ≤ v ∧ v ≤ 2000 ∧ Below W.heap.size W w' := by
  rcases rdI_cases p with ⟨u, h1, h2, h3, h4⟩ | ⟨h1, _⟩
  · have e : u = v := by rw [← hv, h4]
    subst e
    have C := Lib.hid (fun W => atoi_ok p hp u h1 W)
    clear hv hv1 h1 h4
    go_enter Tryd.func35, Tryd.ntmps35
    go_wp2_with fail
    refine (C.out _).mono ?_
    rintro e w1 ⟨rfl, hb⟩
    go_wp2_with (go_at_call 44; refine (hasPage_yes _ _ h2 h3 _).mono ?_; rintro e w' ⟨rfl, rfl⟩)
    go_ret2
    exact ⟨rfl, h2, h3, hb⟩
  · omega
theorem page_no (p : List UInt8) (hp : p.length ≤ 100) (hv : rdI p = -1) (W : World) (hE : Env W) :
    Calls Tryd.prog 35 #[.string ⟨p.toArray⟩] W fun e w' => ∃ v : Int, e = .returned (.tuple #[.int .i64 v, .bool false]) ∧ Below W.heap.size W w' := by
  rcases rdI_cases p with ⟨u, h1, h2, h3, h4⟩ | ⟨_, ⟨u, h1, h2⟩ | h2⟩
  · omega
  · have C := Lib.hid (fun W => atoi_ok p hp u h1 W)
    have H2 := Lib.hid (show ¬ 1 ≤ u ∨ ¬ u ≤ 2000 by omega)
    clear hv h1 h2 hE
    go_enter Tryd.func35, Tryd.ntmps35
    go_wp2_with fail
    refine (C.out _).mono ?_
    rintro e w1 ⟨rfl, hb⟩
    go_wp2_with (go_at_call 44; refine (hasPage_no _ _ (by have := H2.out; omega) _).mono ?_; rintro e w' ⟨rfl, rfl⟩)
    go_ret2
    exact ⟨u, rfl, hb⟩
  · have C := Lib.hid (atoi_no p hp h2 W hE)
    clear hv h2 hE
    go_enter Tryd.func35, Tryd.ntmps35
    go_wp2_with fail
    refine C.out.mono ?_
    rintro e w1 ⟨v, T, q, rfl, hb⟩
    go_wp2
    go_ret2
    exact ⟨v, rfl, hb⟩
theorem cut_le (p : List UInt8) : (Lib.cut p [45]).1.length ≤ p.length ∧ (Lib.cut p [45]).2.1.length ≤ p.length := by
  unfold Lib.cut
  split
  · exact ⟨by rw [List.length_take]; omega, by rw [List.length_drop]; omega⟩
  · exact ⟨Nat.le_refl _, by simp⟩
/-- what impl reads of the last number of a part -/
def toI (p : List UInt8) : List UInt8 := if (Lib.cut p [45]).2.2 then (Lib.cut p [45]).2.1 else (Lib.cut p [45]).1
theorem toI_le (p : List UInt8) : (toI p).length ≤ p.length := by
  have := cut_le p
  unfold toI
  split <;> omega
theorem ruI_eq (p : List UInt8) : ruI p = if rdI (Lib.cut p [45]).1 = -1 ∨ rdI (toI p) = -1 then (0, 0) else (rdI (Lib.cut p [45]).1, rdI (toI p)) := rfl
theorem cut_any (p : List UInt8) (hp : p.length ≤ 100) (W : World) (hE : Env W) :
    Calls Tryd.prog 34 #[.string ⟨p.toArray⟩, .string ⟨#[45]⟩] W fun e w' => e = .returned (.tuple #[.string ⟨(Lib.cut p [45]).1.toArray⟩, .string ⟨(Lib.cut p [45]).2.1.toArray⟩, .bool (Lib.cut p [45]).2.2]) ∧ Below W.heap.size W w' := by
  have hs : (⟨p.toArray⟩ : ByteArray).size = p.length := by show p.toArray.size = _; simp
  obtain ⟨⟨m, h1⟩, _⟩ := hE
  refine (Tryd.strings_Cut ⟨p.toArray⟩ ⟨#[45]⟩ m W (by omega) h1).mono ?_
  rintro e w' ⟨rfl, n, rfl⟩
  exact ⟨by simp, below_dN (Below.refl _ _) _⟩
theorem page_any (p : List UInt8) (hp : p.length ≤ 100) (W : World) (hE : Env W) :
    Calls Tryd.prog 35 #[.string ⟨p.toArray⟩] W fun e w' => ∃ (v : Int) (ok : Bool), e = .returned (.tuple #[.int .i64 v, .bool ok]) ∧ ((ok = false ∧ rdI p = -1) ∨ (ok = true ∧ rdI p = v ∧ 1 ≤ v ∧ v ≤ 2000)) ∧ Below W.heap.size W w' := by
  by_cases h : rdI p = -1
  · refine (page_no p hp h W hE).mono ?_
    rintro e w' ⟨v, rfl, hb⟩
    exact ⟨v, false, rfl, Or.inl ⟨rfl, h⟩, hb⟩
  · refine (page_yes p hp _ rfl h W).mono ?_
    rintro e w' ⟨rfl, h1, h2, hb⟩
    exact ⟨_, true, rfl, Or.inr ⟨rfl, rfl, h1, h2⟩, hb⟩
/-- what a part comes to -/
def Ran (q r : List UInt8) (e : Ending) : Prop :=
  ∃ (a b : Int) (ok : Bool), e = .returned (.tuple #[.int .i64 a, .int .i64 b, .bool ok]) ∧ ((ok = false ∧ (rdI q = -1 ∨ rdI r = -1)) ∨ (ok = true ∧ rdI q = a ∧ rdI r = b ∧ 1 ≤ a ∧ a ≤ 2000 ∧ 1 ≤ b ∧ b ≤ 2000))
set_option maxRecDepth 100000 in
set_option maxHeartbeats 1000000 in
theorem run_core (p q r' r : List UInt8) (c : Bool) (hq : q.length ≤ 100) (hr : r.length ≤ 100) (hc : r = if c then r' else q) (W : World) (hE : Env W)
    (C : Calls Tryd.prog 34 #[.string ⟨p.toArray⟩, .string ⟨#[45]⟩] W fun e w' => e = .returned (.tuple #[.string ⟨q.toArray⟩, .string ⟨r'.toArray⟩, .bool c]) ∧ Below W.heap.size W w') :
    Calls Tryd.prog 25 #[.string ⟨p.toArray⟩] W fun e w' => Ran q r e ∧ Below W.heap.size W w' := by
  have HC := Lib.hid C
  have HE := Lib.hid (fun W' (h : Below W.heap.size W W') => hE.on h)
  have P1 := Lib.hid (fun W (h : Env W) => page_any q hq W h)
  have P2 := Lib.hid (fun W (h : Env W) => page_any r hr W h)
  clear C hE
  cases c
  all_goals
    simp only [if_true, Bool.false_eq_true, if_false] at hc
    subst hc
    go_enter Tryd.func25, Tryd.ntmps25
    go_wp2_with fail
    refine HC.out.mono ?_
    rintro e w1 ⟨rfl, hb1⟩
    have e1 := Lib.hid (HE.out _ hb1)
    go_wp2_with fail
    refine (P1.out _ e1.out).mono ?_
    rintro e w2 ⟨a, ok1, rfl, h1, hb2⟩
    have e2 := Lib.hid (e1.out.on hb2)
    have hb3 := Lib.hid (hb1.trans (hb2.mono hb1.size))
    have H1 := Lib.hid h1
    clear hb1 hb2 h1
    go_wp2_with fail
    refine (P2.out _ e2.out).mono ?_
    rintro e w3 ⟨b, ok2, rfl, h2, hb4⟩
    have hb5 := Lib.hid (hb3.out.trans (hb4.mono hb3.out.size))
    have H2 := Lib.hid h2
    clear h2 hb4
    cases ok1
    · go_wp2
      go_ret3
      refine ⟨⟨a, b, false, rfl, Or.inl ⟨rfl, ?_⟩⟩, hb5.out⟩
      rcases H1.out with ⟨_, h⟩ | ⟨h, _⟩
      · exact Or.inl h
      · cases h
    · cases ok2
      · go_wp2
        go_ret3
        refine ⟨⟨a, b, false, rfl, Or.inl ⟨rfl, ?_⟩⟩, hb5.out⟩
        rcases H2.out with ⟨_, h⟩ | ⟨h, _⟩
        · exact Or.inr h
        · cases h
      · go_wp2
        go_ret3
        refine ⟨⟨a, b, true, rfl, Or.inr ⟨rfl, ?_⟩⟩, hb5.out⟩
        rcases H1.out with ⟨h, _⟩ | ⟨_, h1, h2, h3⟩
        · cases h
        · rcases H2.out with ⟨h, _⟩ | ⟨_, k1, k2, k3⟩
          · cases h
          · exact ⟨h1, k1, h2, h3, k2, k3⟩
theorem run_any (p : List UInt8) (hp : p.length ≤ 100) (W : World) (hE : Env W) :
    Calls Tryd.prog 25 #[.string ⟨p.toArray⟩] W fun e w' => (∃ (a b : Int) (ok : Bool), e = .returned (.tuple #[.int .i64 a, .int .i64 b, .bool ok]) ∧ ((ok = false ∧ (ruI p).1 = 0) ∨ (ok = true ∧ ruI p = (a, b) ∧ 1 ≤ a ∧ a ≤ 2000 ∧ 1 ≤ b ∧ b ≤ 2000))) ∧ Below W.heap.size W w' := by
  have l1 := (cut_le p).1
  have l2 := toI_le p
  refine (run_core p _ _ (toI p) _ (by omega) (by omega) rfl W hE (cut_any p hp W hE)).mono ?_
  rintro e w' ⟨⟨a, b, ok, rfl, h⟩, hb⟩
  refine ⟨⟨a, b, ok, rfl, ?_⟩, hb⟩
  rw [ruI_eq]
  rcases h with ⟨h1, h2⟩ | ⟨h1, h2, h3, h4, h5, h6, h7⟩
  · exact Or.inl ⟨h1, by rw [if_pos h2]⟩
  · exact Or.inr ⟨h1, by rw [if_neg (by omega), h2, h3], h4, h5, h6, h7⟩
theorem strs_split (l : List UInt8) : ((Lib.splitB ⟨#[44]⟩ 0 (Lib.countB ⟨l.toArray⟩ ⟨#[44]⟩) ⟨l.toArray⟩).map Value.string) = strs (sp 44 l) ∧ Lib.countB ⟨l.toArray⟩ ⟨#[44]⟩ + 1 = (sp 44 l).length := by
  have hk := split_eq 44 (⟨l.toArray⟩ : ByteArray).size ⟨l.toArray⟩ (Nat.le_refl _)
  have e : (⟨l.toArray⟩ : ByteArray).data.toList = l := by simp
  rw [e] at hk
  constructor
  · rw [← hk]
    unfold strs
    rw [List.map_map]
    apply List.map_congr_left
    intro x _
    simp
  · rw [← hk, List.length_map]
    exact (Lib.splitB_all ⟨#[44]⟩ (Nat.le_refl 1) 0 _ _ rfl).symm
theorem split_any (l : List UInt8) (hl : l.length ≤ 100) (W : World) (hE : Env W) :
    Calls Tryd.prog 24 #[.string ⟨l.toArray⟩, .string ⟨#[44]⟩] W fun e w' => e = .returned (.slice (some ⟨W.heap.size, 0, none⟩) (sp 44 l).length (sp 44 l).length) ∧ w'.ownsRow W.heap.size 9 1 (.slice (some ⟨W.heap.size, 0, none⟩) (sp 44 l).length (sp 44 l).length) (sp 44 l).length (strs (sp 44 l)) ∧ Below W.heap.size W w' := by
  have hs : (⟨l.toArray⟩ : ByteArray).size = l.length := by show l.toArray.size = _; simp
  obtain ⟨⟨m, h1⟩, _⟩ := hE
  obtain ⟨k1, k2⟩ := strs_split l
  have hn := sp_le 44 l
  refine (Tryd.strings_Split ⟨l.toArray⟩ ⟨#[44]⟩ m W (by omega) h1 (Nat.le_refl 1)).mono ?_
  rintro e w' ⟨rfl, rfl⟩
  rw [k2, k1]
  refine ⟨rfl, ?_, (Below.refl _ _).alloc (Nat.le_refl _) _⟩
  have := World.ownsRow_lit (base := W.heap.size) (e := 9) (size := 1) W (strs (sp 44 l)).toArray (sp 44 l).length (Nat.le_refl _) (by unfold maxLen; omega) (by simp [strs])
  simpa using this
theorem implC_none (a : Option Addr) (cap : Nat) (w : World) :
    Calls Tryd.prog 7 #[.slice a 0 cap] w fun e w' => e = .returned (.tuple #[.string ⟨#[]⟩, .bool false]) ∧ w = w' := by
  go_enter Tryd.func7, Tryd.ntmps7
  go_wp2
  go_ret2
  exact ⟨rfl, rfl⟩
set_option maxRecDepth 100000 in
set_option maxHeartbeats 4000000 in
theorem implParse (l : List UInt8) (hl : l.length ≤ 100) (w : World) (hE : Env w) (hT : TabOn w) :
    Calls Tryd.prog 10 #[.string ⟨l.toArray⟩] w (Gives (ans l (fo ruI (sp 44 l) [])).1 (ans l (fo ruI (sp 44 l) [])).2 w) := by
  obtain ⟨i0, hi, hz0, hz1, hz2⟩ := info_parts info3
  have S44 := split_any l hl w hE
  obtain ⟨n, hn⟩ : ∃ n, (sp 44 l).length = n := ⟨_, rfl⟩
  rw [hn] at S44
  have hn0 : 0 < n := by rw [← hn]; exact sp_pos 44 l
  have hn1 : n ≤ 101 := by have := sp_le 44 l; omega
  have HN := Lib.hid hn
  have hdec : decide ((100 : Int) < (l.length : Int)) = false := by simp; omega
  have HS := Lib.hid S44
  have HE := Lib.hid (fun W' (h : Below w.heap.size w W') => hE.on h)
  have HT := Lib.hid hT
  clear hn S44 hE hT
  go_enter Tryd.func10, Tryd.ntmps10
  go_wp2_with fail
  refine HS.out.mono ?_
  rintro e w1 ⟨rfl, ho1, hb1⟩
  obtain ⟨g1, hg1e⟩ : ∃ g, g = w.heap.size := ⟨_, rfl⟩
  rw [← hg1e] at ho1 ⊢
  have hg1 : g1 < w1.heap.size := (ho1.lt g1 rfl).2
  have HG := Lib.hid hg1e
  have HO1 := Lib.hid ho1
  have hs1 := hb1.size
  have HB1 := Lib.hid hb1
  clear ho1 hb1 hg1e
  go_wp2
  go_loopw [4, 19] (fun v i wr => ∃ (k : Nat) (ys : List Int), k ≤ n ∧ i = .int .i64 (k : Int) ∧ wr.ownsRow w1.heap.size 3 1 v ys.length (nums ys) ∧ Hid (fo ruI (sp 44 l) [] = fo ruI ((sp 44 l).drop k) ys) ∧ ys.length ≤ 2000 * k ∧ Below w1.heap.size w1 wr) (fun _ i _ => n - (intOf i).toNat)
  case atStart => exact ⟨0, [], by omega, rfl, World.ownsRow_nil _ _ _ _, Lib.hid (by simp), by simp, Below.refl _ _⟩
  case round =>
    obtain ⟨k, ys, hk, rfl, hown, hfo, hys, hb⟩ := hrel
    obtain ⟨wo, rfl⟩ : ∃ wo : World, wo = wr := ⟨_, rfl⟩
    have hsz := hb.size
    by_cases hlt : k < n
    · obtain ⟨p, hp⟩ : ∃ p, (sp 44 l).getD k [] = p := ⟨_, rfl⟩
      have hpl : p.length ≤ 100 := by
        have := sp_part 44 l p (by rw [← hp]; exact getD_mem _ k (by rw [HN.out]; exact hlt))
        omega
      have hc := (Li_cell HO1.out HN.out hb hlt)
      rw [hp] at hc
      have R := Lib.hid (run_any p hpl wo (HE.out _ (HB1.out.trans (hb.mono hs1))))
      have HP := Lib.hid hp
      clear hp
      go_wp2_with fail
      refine R.out.mono ?_
      rintro e w3 ⟨⟨a, b, ok, rfl, hab⟩, hb2⟩
      have hown3 := own_on hown hb2
      have hbw3 := hb.trans (hb2.mono hsz)
      clear hown hb hb2 R
      cases ok
      · have FO := Lib.hid (show ans l (fo ruI (sp 44 l) []) = (false, []) by
          rw [hfo.out, fo_skip ruI (sp 44 l) k ys (by rw [HN.out]; exact hlt) (by
            rw [HP.out]
            rcases hab with ⟨_, h⟩ | ⟨h, _⟩
            · exact h
            · cases h)]
          rfl)
        have HBW := Lib.hid (Gives.none (HB1.out.trans (hbw3.mono HB1.out.size)))
        clear hfo hab hown3
        go_wp2
        go_ret2
        rw [FO.out]
        exact HBW.out
      · obtain ⟨hru, k1, k2, k3, k4⟩ : ruI p = (a, b) ∧ 1 ≤ a ∧ a ≤ 2000 ∧ 1 ≤ b ∧ b ≤ 2000 := by
          rcases hab with ⟨h, _⟩ | ⟨_, h⟩
          · cases h
          · exact h
        have FO := Lib.hid (show fo ruI (sp 44 l) [] = fo ruI ((sp 44 l).drop (k + 1)) (ys ++ rng a b) by
          rw [hfo.out]
          exact fo_take ruI (sp 44 l) k ys a b (by rw [HN.out]; exact hlt) (by rw [HP.out, hru]) (by omega))
        clear hfo hab hru
        go_wp2
        go_loopw [4, 10] (fun v i wr => ∃ j : Nat, j ≤ (rng a b).length ∧ i = .int .i64 (a + (j : Int)) ∧ wr.ownsRow w1.heap.size 3 1 v (ys.length + j) (nums (ys ++ (rng a b).take j)) ∧ Below w1.heap.size w1 wr) (fun _ i _ => (b + 1 - intOf i).toNat)
        case atStart => exact ⟨0, by omega, by simp, by simpa using hown3, hbw3⟩
        case round =>
          obtain ⟨j, hj, rfl, hv, hb5⟩ := hrel
          have hsz5 := hb5.size
          have hrl := rng_length a b
          rw [hrl] at hj
          by_cases hlt5 : a + (j : Int) ≤ b
          · have HT5 := Lib.hid (rng_take a b j (by omega))
            have HRL := Lib.hid hrl
            clear hrl
            go_wp2_with (first | (at_builtin; refine wpList_append_own _ rfl _ _ 22 rfl w1.heap.size 3 i0 (.int .i64 0) 1 8 Tryd.underlying22 hi hz0 hz1 hz2 rfl (by decide) _ _ _ rfl (hv.alloc _) ⟨wr.heap.size, 0, none⟩ 1 1 [.int .i64 (a + (j : Int))] rfl rfl (cell_one_new _ _ _) (fun x hx => by simp at hx; subst hx; rfl) (by unfold maxLen; omega) (by omega) (by simp; omega) ?_; intro v' w5 hown5 hgrow5 hnil5))
            have O := Lib.hid (show w5.ownsRow w1.heap.size 3 1 v' (ys.length + (j + 1)) (nums (ys ++ (rng a b).take (j + 1))) by rw [HT5.out, ← List.append_assoc, nums_snoc]; exact hown5)
            have B := Lib.hid ((hb5.alloc hsz5 _).grown hgrow5 (by simp; omega) (fun q hq => (hv.lt q hq).1))
            clear hown5 hgrow5 hnil5 hv hb5
            go_roundw
            case rel => exact ⟨j + 1, by rw [HRL.out]; omega, by have : ((j + 1 : Nat) : Int) = (j : Int) + 1 := by omega
                                                                 rw [this, Int.add_assoc], O.out, B.out⟩
            case measure => simp [intOf]; omega
          · have HJ := Lib.hid (show j = (rng a b).length by rw [hrl]; omega)
            have O := Lib.hid (show wr.ownsRow w1.heap.size 3 1 u4 (ys ++ rng a b).length (nums (ys ++ rng a b)) by
              rw [HJ.out, List.take_length] at hv
              rw [List.length_append]; exact hv)
            have HLen := Lib.hid (show (ys ++ rng a b).length ≤ 2000 * (k + 1) by rw [List.length_append, ← HJ.out]; omega)
            clear hv hrl
            go_wp2
            go_roundw
            case rel => exact ⟨k + 1, ys ++ rng a b, by omega, by go_num, O.out, FO, HLen.out, hb5⟩
            case measure => simp [intOf]; omega
    · have hkn : k = n := by omega
      have FO := Lib.hid (show fo ruI (sp 44 l) [] = some ys by
        rw [hfo.out, hkn, ← HN.out]
        exact fo_end ruI (sp 44 l) ys)
      have HBW := Lib.hid (HB1.out.trans (hb.mono HB1.out.size))
      clear hfo hkn
      by_cases hy : ys.length = 0
      · have HY := Lib.hid (show ans l (fo ruI (sp 44 l) []) = (false, []) by rw [FO.out]; exact ans_bad (fun h => by have := h.1; omega))
        have hform : ∃ a0 cap0, u4 = .slice a0 0 cap0 := by
          rw [hy] at hown
          rcases hown.2 with ⟨h, _⟩ | ⟨g, cap, cur, h, _⟩
          · exact ⟨_, _, h⟩
          · exact ⟨_, _, h⟩
        obtain ⟨a0, cap0, rfl⟩ := hform
        clear hy hown
        go_wp2_with (first | (go_at_call 7; refine (implC_none _ _ _).mono ?_; rintro e w' ⟨rfl, rfl⟩))
        go_ret2
        rw [HY.out]
        exact Gives.none HBW.out
      · obtain ⟨g, cap, rfl, hcap, hg⟩ : ∃ g cap, u4 = .slice (some ⟨g, 0, none⟩) ys.length cap ∧ ys.length ≤ cap ∧ g < wo.heap.size := by
          rcases hown.2 with ⟨h, h0⟩ | ⟨g, cap, cur, h, _, hgg, hc1, _⟩
          · exact absurd h0 hy
          · exact ⟨g, cap, h, hc1, (Array.getElem?_eq_some_iff.1 hgg).1⟩
        have hra : RowAt wo g 0 ys.length ys := ⟨rfl, by omega, hg, fun q hq => by
          rw [Nat.zero_add, hown.cellAt q (by omega)]
          unfold nums
          simp [List.getD, List.getElem?_eq_getElem hq]⟩
        have HRA := Lib.hid hra
        clear hra
        by_cases hp : Pages ys
        · have C2 := Lib.hid (partsC_any g ys.length cap hcap ys wo (fun W' h => HT.out W' (HBW.out.trans (h.mono HBW.out.size))) HRA.out hp)
          have HPG := Lib.hid hp
          clear hp
          go_wp2_with fail
          refine C2.out.mono ?_
          rintro e w5 ⟨rfl, hb5⟩
          have HB5 := Lib.hid (HBW.out.trans (hb5.mono HBW.out.size))
          by_cases ht : T.text ys = l
          · have HY := Lib.hid (show ans l (fo ruI (sp 44 l) []) = (true, ys) by rw [FO.out]; exact ans_yes HPG.out ht)
            have O := Lib.hid (own_le (own_on hown hb5) hs1)
            have q5 : (T.text ys == l) = true := by simpa using ht
            clear ht hown hb5
            go_wp2
            go_ret2
            rw [HY.out]
            exact ⟨_, rfl, O.out, HB5.out⟩
          · have HY := Lib.hid (show ans l (fo ruI (sp 44 l) []) = (false, []) by rw [FO.out]; exact ans_other ht)
            have q5 : (T.text ys == l) = false := by simpa using ht
            clear ht hown hb5
            go_wp2
            go_ret2
            rw [HY.out]
            exact Gives.none HB5.out
        · have C1 := Lib.hid (implC_no g ys.length cap ys wo HRA.out hp)
          have HY := Lib.hid (show ans l (fo ruI (sp 44 l) []) = (false, []) by rw [FO.out]; exact ans_bad hp)
          clear hp hown
          go_wp2_with fail
          refine C1.out.mono ?_
          rintro e w4 ⟨rfl, hb4⟩
          have HB4 := Lib.hid (HBW.out.trans (hb4.mono HBW.out.size))
          clear hb4
          go_wp2
          go_ret2
          rw [HY.out]
          exact Gives.none HB4.out
end P
end Go.Proofs.YtocmgggggdcebaaDoor
