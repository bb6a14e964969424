/- The pages of paragraphs: mathematics, and the program. -/
import Derived.Test.YtdpblijmagcgiaaPl0
namespace Go.Proofs.Ytdpblijmagcgiaa
open Go.RowKit Go.Joins Go.Deep Go.ChangeShapes Go.WideShapes
set_option linter.unusedVariables false
set_option linter.unusedSimpArgs false
namespace Ln
/-- breaks that increase, all beyond nothing -/
def IncP (B : List Int) : Prop := Inc B ∧ ∀ i, i < B.length → 0 < B.getD i 0
theorem bef_at (B : List Int) (i : Nat) : bef B (i + 1) = B.getD i 0 := by unfold bef; rw [if_neg (by omega), Nat.add_sub_cancel]
theorem bef_lt {B : List Int} (h : IncP B) {i j : Nat} (hij : i < j) (hj : j ≤ B.length) : bef B i < bef B j := by
  obtain ⟨k, rfl⟩ : ∃ k, j = k + 1 := ⟨j - 1, by omega⟩
  rw [bef_at]
  by_cases e : i = 0
  · subst e; exact h.2 k (by omega)
  · obtain ⟨m, rfl⟩ : ∃ m, i = m + 1 := ⟨i - 1, by omega⟩
    rw [bef_at]
    exact h.1 m k (by omega) (by omega)
theorem bef_le {B : List Int} (h : IncP B) {i j : Nat} (hij : i ≤ j) (hj : j ≤ B.length) : bef B i ≤ bef B j := by
  by_cases e : i = j
  · subst e; exact Int.le_refl _
  · have := bef_lt h (show i < j by omega) hj; omega
theorem rch_test {B : List Int} (h : IncP B) {n : Int} (hn : 0 ≤ n) {i j : Nat} (hi : i ≤ B.length) (hj : j < B.length) : (j < rch B (bef B i + n) i → B.getD j 0 ≤ bef B i + n) ∧ (¬ j < rch B (bef B i + n) i → ¬ B.getD j 0 ≤ bef B i + n) := by
  obtain ⟨p, q⟩ := rch_all B (bef B i + n) _ i (Nat.le_refl _) hi
  constructor
  · intro hlt
    by_cases c : i ≤ j
    · exact p j c hlt
    · have := bef_le h (show j + 1 ≤ i by omega) hi
      rw [bef_at] at this
      omega
  · intro hge hle
    have hE : rch B (bef B i + n) i < B.length := by omega
    have h1 := q hE
    by_cases e : rch B (bef B i + n) i = j
    · rw [e] at h1; exact h1 hle
    · have := h.1 (rch B (bef B i + n) i) j (by omega) hj
      omega
/-- the greatest break so far -/
def nx (B : List Int) (i E j : Nat) : Int := bef B (max i (min j E))
theorem nx_take {B : List Int} (h : IncP B) {i E j : Nat} (hj : j < E) (hE : E ≤ B.length) (hi : i ≤ B.length) : max (nx B i E j) (B.getD j 0) = nx B i E (j + 1) := by
  unfold nx
  rw [Nat.min_eq_left (by omega : j ≤ E), Nat.min_eq_left (by omega : j + 1 ≤ E)]
  by_cases c : j < i
  · rw [Nat.max_eq_left (by omega), Nat.max_eq_left (by omega)]
    have := bef_le h (show j + 1 ≤ i by omega) hi
    rw [bef_at] at this
    omega
  · rw [Nat.max_eq_right (by omega), Nat.max_eq_right (by omega), bef_at]
    have := bef_lt h (show j < j + 1 by omega) (by omega)
    rw [bef_at] at this
    omega
theorem nx_skip {B : List Int} {i E j : Nat} (hj : ¬ j < E) : nx B i E (j + 1) = nx B i E j := by
  unfold nx
  rw [Nat.min_eq_right (by omega), Nat.min_eq_right (by omega)]
theorem nx_start (B : List Int) (i E : Nat) : nx B i E 0 = bef B i := by unfold nx; rw [Nat.zero_min, Nat.max_eq_left (by omega)]
theorem nx_end {B : List Int} {i E j : Nat} (hi : i ≤ E) (hj : E ≤ j) : nx B i E j = bef B E := by unfold nx; rw [Nat.min_eq_right hj, Nat.max_eq_right hi]
/-- the breaks behind pages: with the last one, and whether each page has a line -/
def ends (zs : List Int) (n : Int) : Option (List Int) := pg (ibA zs zs.length) n 0
def pbB (zs : List Int) (n : Int) : Bool := pags zs n && (ends zs n).isSome
def enZ (zs : List Int) (n : Int) : List Int := if pags zs n = true then (ends zs n).getD [] else []
theorem ib_ok {zs : List Int} (h : Okp zs) : IncP (ibA zs zs.length) ∧ 1 ≤ (ibA zs zs.length).length ∧ (ibA zs zs.length).length ≤ 720 ∧ (∀ i, i ≤ (ibA zs zs.length).length → 0 ≤ bef (ibA zs zs.length) i ∧ bef (ibA zs zs.length) i ≤ 720) ∧ bef (ibA zs zs.length) (ibA zs zs.length).length = psum zs zs.length := by
  have h1 := ibA_inc (fun k hk => (h.2.2 k hk).1) zs.length (Nat.le_refl _)
  have h2 := alA_all (fun k hk => (h.2.2 k hk).1) h.1
  have h3 := ibA_len h zs.length (Nat.le_refl _)
  have h4 := h.2.1
  have h5 := psum_bd h.2.2 0 zs.length (by omega)
  rw [Nat.zero_add, show psum zs 0 = 0 from rfl] at h5
  have h6 : 1 ≤ (ibA zs zs.length).length := by rw [h2]; simp
  refine ⟨⟨h1.1, fun i hi => (h1.2 i hi).1⟩, h6, by omega, fun i hi => ?_, ?_⟩
  · by_cases e : i = 0
    · subst e; exact ⟨Int.le_refl _, by unfold bef; simp⟩
    · obtain ⟨j, rfl⟩ : ∃ j, i = j + 1 := ⟨i - 1, by omega⟩
      rw [bef_at]
      have := h1.2 j (by omega)
      omega
  · have h7 := congrArg List.length h2
    rw [List.length_append] at h7
    simp only [List.length_cons, List.length_nil] at h7
    rw [h7, bef_at, h2, getD_app_r _ _ _ _ (Nat.le_refl _), Nat.sub_self]
    rfl
theorem pg_len (B : List Int) (n : Int) : ∀ d i L, B.length - i ≤ d → pg B n i = some L → L.length ≤ B.length - i := by
  intro d
  induction d with
  | zero =>
    intro i L h he
    rw [pg_end (by omega)] at he
    injection he with he
    subst he
    simp
  | succ d ih =>
    intro i L h he
    by_cases hi : i < B.length
    · by_cases e : rch B (bef B i + n) i = i
      · rw [pg_none hi e] at he; cases he
      · have hb := rch_bd B (bef B i + n) i (by omega)
        rw [pg_step hi e] at he
        cases h2 : pg B n (rch B (bef B i + n) i) with
        | none => rw [h2] at he; cases he
        | some l =>
          rw [h2] at he
          injection he with he
          subst he
          have := ih _ l (by omega) h2
          simp only [List.length_cons]
          omega
    · rw [pg_end hi] at he
      injection he with he
      subst he
      simp
theorem enZ_len (zs : List Int) (n : Int) : (enZ zs n).length ≤ 720 := by
  unfold enZ
  split
  · next h =>
    have hp := ib_ok (pags_ok h).1
    unfold ends
    cases h2 : pg (ibA zs zs.length) n 0 with
    | none => simp
    | some l =>
      have := pg_len _ n _ 0 l (Nat.le_refl _) h2
      simp only [Option.getD_some]
      omega
  · simp
theorem gives_eq {ok ok' : Bool} {os os' : List Int} {W w' : World} {e : Ending} (h : Gives ok os W e w') (h1 : ok = ok') (h2 : os = os') : Gives ok' os' W e w' := by subst h1 h2; exact h
theorem Ln_none {W w' : World} (hb : Below W.heap.size W w') : Gives false [] W (.returned (.tuple #[.slice none 0 0, .bool false])) w' :=
  ⟨_, rfl, World.ownsRow_nil _ _ _ _, hb⟩
set_option maxRecDepth 100000 in
set_option maxHeartbeats 8000000 in
theorem endsOfPages_any {b1 g len cap : Nat} {zs : List Int} {n : Int} {w : World} (h : Ow w b1 g len cap zs) (hl : len ≤ 1048576) :
    Calls Try.prog 67 #[.slice (some ⟨g, 0, none⟩) len cap, .int .i64 n] w (Gives (pbB zs n) (enZ zs n) w) := by
  have hz := ow_len h
  obtain ⟨x1, hx1⟩ : ∃ x, (parB zs && allB zs 1 60) = x := ⟨_, rfl⟩
  obtain ⟨x2, hx2⟩ : ∃ x, pageB n = x := ⟨_, rfl⟩
  have C1 := Lib.hid (areParagraphs_any h hl x1 hx1)
  have C2 := Lib.hid (fun W => isLinesOfPage_any n x2 hx2 W)
  have hp : pags zs n = (x1 && x2) := by unfold pags; rw [hx1, hx2]
  cases x1
  · rw [show enZ zs n = [] by unfold enZ; rw [hp]; rfl, show pbB zs n = false by unfold pbB; rw [hp]; rfl]
    clear h hx1 hx2 hp
    go_enter Try.func67, Try.ntmps67
    go_wp2_with fail
    refine C1.out.mono ?_
    rintro e w' ⟨rfl, rfl⟩
    go_wp2
    go_ret2
    exact ⟨_, rfl, World.ownsRow_nil _ _ _ _, Below.refl _ _⟩
  · cases x2
    · rw [show enZ zs n = [] by unfold enZ; rw [hp]; rfl, show pbB zs n = false by unfold pbB; rw [hp]; rfl]
      clear h hx1 hx2 hp
      go_enter Try.func67, Try.ntmps67
      go_wp2_with fail
      refine C1.out.mono ?_
      rintro e w' ⟨rfl, rfl⟩
      go_wp2_with fail
      refine (C2.out _).mono ?_
      rintro e w' ⟨rfl, rfl⟩
      go_wp2
      go_ret2
      exact ⟨_, rfl, World.ownsRow_nil _ _ _ _, Below.refl _ _⟩
    · have hok := (pags_ok hp).1
      have hn0 := (pags_ok hp).2.1
      have hn1 := (pags_ok hp).2.2
      have C3 := Lib.hid (allowedBreaks_any h hok)
      have hib := ib_ok hok
      have hR : enZ zs n = (ends zs n).getD [] := by unfold enZ; rw [hp]; rfl
      have hR2 : pbB zs n = (ends zs n).isSome := by unfold pbB; rw [hp]; rfl
      unfold ends at hR hR2
      rw [hz] at hib hR hR2
      obtain ⟨B, hB⟩ : ∃ B, ibA zs len = B := ⟨_, rfl⟩
      rw [hB] at C3 hib hR hR2
      have HR := Lib.hid hR
      have HR2 := Lib.hid hR2
      have HI := Lib.hid hib.1
      have hm1 := hib.2.1
      have hm2 := hib.2.2.1
      have HBE := Lib.hid hib.2.2.2.1
      obtain ⟨m, hm⟩ : ∃ m, B.length = m := ⟨_, rfl⟩
      have HML := Lib.hid hm
      rw [hm] at hm1 hm2 C3 HBE
      obtain ⟨i0, hi, hz0, hz1, hz2⟩ := info_parts Li.info3
      obtain ⟨OK, hOK⟩ : ∃ x, pbB zs n = x := ⟨_, rfl⟩
      obtain ⟨OS, hOS⟩ : ∃ x, enZ zs n = x := ⟨_, rfl⟩
      rw [hOK] at HR2
      rw [hOS] at HR
      rw [hOK, hOS]
      clear h hx1 hx2 hp hok hR hR2 hib hB hm hz hOK hOS
      go_enter Try.func67, Try.ntmps67
      go_wp2_with fail
      refine C1.out.mono ?_
      rintro e w' ⟨rfl, rfl⟩
      go_wp2_with fail
      refine (C2.out _).mono ?_
      rintro e w' ⟨rfl, rfl⟩
      go_wp2_with fail
      refine C3.out.mono ?_
      rintro e w1 ⟨v, rfl, hr, hb1⟩
      obtain ⟨gq, cp, rfl⟩ : ∃ gq cp, v = .slice (some ⟨gq, 0, none⟩) m cp := by
        rcases Li.own_forms hr with ⟨_, h0⟩ | h1
        · omega
        · exact h1
      have hcp := (ow_cap hr).1
      have hcm : cp ≤ 9223372036854775807 := by have := (ow_cap hr).2; unfold maxLen at this; omega
      have HRO := Lib.hid hr
      have HB1 := Lib.hid hb1
      clear hr hb1
      go_wp2
      go_loopw [6, 7, 8] (fun v b s wr => ∃ (i o : Nat) (L : List Int) (P : Int) (vv : Value), vv = v ∧ i ≤ m ∧ (o = i ∨ m - i = 0) ∧ L.length ≤ i ∧ b = .int .i64 P ∧ s = .slice (some ⟨gq, o, none⟩) (m - i) (cp - i) ∧ Hid (P = bef B i) ∧ wr.ownsRow w1.heap.size 3 1 vv L.length (Li.nums L) ∧ Hid (pg B n 0 = (pg B n i).map (L ++ ·)) ∧ Below w1.heap.size w1 wr) (fun _ _ s _ => lenV s)
      case atStart => exact ⟨0, 0, [], 0, _, rfl, by omega, _root_.Or.inl rfl, by simp, rfl, by simp, Lib.hid rfl, World.ownsRow_nil _ _ _ _, Lib.hid (by cases pg B n 0 <;> simp), Below.refl _ _⟩
      case round =>
        obtain ⟨i, o, L, P, vv, rfl, hi2, hoi, hLi, rfl, rfl, HP, hown, HF, hb⟩ := hrel
        have HB := Lib.hid hb
        have hsw := hb.size
        clear hb
        have hpb := HBE.out i hi2
        rw [← HP.out] at hpb
        have p1 := hpb.1
        have p2 := hpb.2
        obtain ⟨k, hk⟩ : ∃ k, m - i = k := ⟨_, rfl⟩
        rw [hk] at hoi ⊢
        by_cases hlt : 0 < k
        · obtain rfl : o = i := by omega
          have hRow := Li.own_on HRO.out HB.out
          have HC := Lib.hid (fun j (hj : o + j < m) => ow_cell hRow hj)
          have HT := Lib.hid (fun j (hj : j < m) => rch_test HI.out (n := n) (i := o) (j := j) (by omega) (by rw [HML.out]; omega) (by rw [HML.out]; exact hj))
          have hEb := rch_bd B (bef B o + n) o (by rw [HML.out]; omega)
          have HNO := Lib.hid (fun e => pg_none (B := B) (lines := n) (i := o) (by rw [HML.out]; omega) e)
          have HST := Lib.hid (fun e => pg_step (B := B) (lines := n) (i := o) (by rw [HML.out]; omega) e)
          rw [HML.out] at hEb
          obtain ⟨E, hE⟩ : ∃ E, rch B (bef B o + n) o = E := ⟨_, rfl⟩
          rw [hE] at hEb HT HNO HST
          rw [← HP.out] at HT
          have e1 := hEb.1
          have e2 := hEb.2
          have t0 : decide (0 < k) = true := by simp; omega
          have t1 : decide ((0 : Int) < (k : Int)) = true := by simp; omega
          clear hE hEb hoi
          go_wp2
          go_loopw [9] (fun x wi => wi = wr ∧ ∃ r : Nat, o + r ≤ E ∧ x = .int .i64 (r : Int)) (fun x _ => ((m : Int) - intOf x).toNat)
          case atStart => exact ⟨rfl, 0, by omega, rfl⟩
          case round =>
            obtain ⟨rfl, r, hr, rfl⟩ := hrel
            by_cases hrk : r < k
            · have hrk2 : (r : Int) < (k : Int) := by omega
              have hc := HC.out r (by omega)
              obtain ⟨z, hz⟩ : ∃ z, B.getD (o + r) 0 = z := ⟨_, rfl⟩
              have ht := HT.out (o + r) (by omega)
              rw [hz] at ht hc
              by_cases hre : o + r < E
              · have hle := ht.1 hre --ARM A
                clear ht
                go_wp2
                go_roundw
                case rel => exact ⟨trivial, r + 1, by omega, by go_num⟩
                case measure => simp [intOf] <;> omega
              · have hle := ht.2 hre
                have htf : decide (z ≤ P + n) = false := decide_eq_false (by omega)
                have hrE : o + r = E := by omega
                clear ht hz
                by_cases hr0 : r = 0
                · have tz : ((r : Int) == 0) = true := by rw [beq_iff_eq]; omega --ARM B
                  have HN := Lib.hid (show pg B n 0 = none by rw [HF.out, HNO.out (by omega)]; rfl)
                  clear hr0 hrE
                  go_wp2
                  go_ret2
                  exact gives_eq (Ln_none (HB1.out.trans (below_le HB.out HB1.out.size))) (by rw [HR2.out, HN.out]; rfl) (by rw [HR.out, HN.out]; rfl)
                · obtain ⟨q, rfl⟩ : ∃ q, r = q + 1 := ⟨r - 1, by omega⟩ --ARM C
                  have hcq := HC.out q (by omega)
                  have HBQ := Lib.hid (show B.getD (o + q) 0 = bef B E by rw [← hrE, show o + (q + 1) = (o + q) + 1 by omega, bef_at])
                  obtain ⟨y, hy⟩ : ∃ y, B.getD (o + q) 0 = y := ⟨_, rfl⟩
                  rw [hy] at hcq HBQ
                  have HNEW := Lib.hid (show pg B n 0 = (pg B n E).map ((L ++ [y]) ++ ·) by
                    rw [HF.out, HST.out (by omega), Option.map_map, show B.getD (E - 1) 0 = y by rw [← hy, ← hrE]; congr 1]
                    congr 1
                    funext l
                    simp)
                  obtain ⟨o2, r7, ho2⟩ := cut_run gq o k (cp - o) (q + 1) ((q : Int) + 1) (by simp) (by omega) (by omega)
                  have hq1 : ((q + 1 : Nat) : Int) - 1 = (q : Int) := by omega
                  have hq2 : (q : Int) < (k : Int) := by omega
                  have hq3 : ((q : Int) + 1 == 0) = false := by rw [beq_eq_false_iff_ne]; omega
                  have HOw := Lib.hid (hown.alloc (.cells #[.int .i64 y] 3))
                  have HLT := Lib.hid (fun j hj => (hown.lt j hj).1)
                  have hoE : o ≤ E := by omega
                  have HRE := Lib.hid hrE
                  clear hown hy hrE
                  go_wp2_with (first | (at_builtin; refine wpList_append_own _ rfl _ _ 22 rfl w1.heap.size 3 i0 (.int .i64 0) 1 8 Try.underlying22 hi hz0 hz1 hz2 rfl (by decide) _ _ _ rfl HOw.out ⟨_, 0, none⟩ 1 1 [.int .i64 y] rfl rfl (cell_one_new _ _ _) (fun x hx => by simp at hx; subst hx; rfl) (by unfold maxLen; omega) (by omega) (by simp; omega) ?_; intro v3 w3 hown3 hgrow3 _))
                  have HB4 := Lib.hid (Below.grown (HB.out.alloc HB.out.size (.cells #[.int .i64 y] 3)) hgrow3 (by simp; omega) HLT.out)
                  have HO3 := Lib.hid (show w3.ownsRow w1.heap.size 3 1 v3 (L ++ [y]).length (Li.nums (L ++ [y])) by rw [nums_snoc, List.length_append]; exact hown3)
                  clear hown3 hgrow3
                  go_roundw
                  case rel => exact ⟨E, o2, L ++ [y], y, _, rfl, e2, by have := HRE.out; omega, by have := HRE.out; simp; omega, rfl, by have := HRE.out; first | (congr 1 <;> omega) | trace_state, HBQ, HO3.out, HNEW, HB4.out⟩
                  case measure => have := HRE.out; simp [lenV]; omega
            · have hrk2 : ¬ (r : Int) < (k : Int) := by omega
              have hrE : o + r = E := by omega
              by_cases hr0 : r = 0
              · omega
              · obtain ⟨q, rfl⟩ : ∃ q, r = q + 1 := ⟨r - 1, by omega⟩ --ARM D
                have hcq := HC.out q (by omega)
                have HBQ := Lib.hid (show B.getD (o + q) 0 = bef B E by rw [← hrE, show o + (q + 1) = (o + q) + 1 by omega, bef_at])
                obtain ⟨y, hy⟩ : ∃ y, B.getD (o + q) 0 = y := ⟨_, rfl⟩
                rw [hy] at hcq HBQ
                have HNEW := Lib.hid (show pg B n 0 = (pg B n E).map ((L ++ [y]) ++ ·) by
                  rw [HF.out, HST.out (by omega), Option.map_map, show B.getD (E - 1) 0 = y by rw [← hy, ← hrE]; congr 1]
                  congr 1
                  funext l
                  simp)
                obtain ⟨o2, r7, ho2⟩ := cut_run gq o k (cp - o) (q + 1) ((q : Int) + 1) (by simp) (by omega) (by omega)
                have hq1 : ((q + 1 : Nat) : Int) - 1 = (q : Int) := by omega
                have hq2 : (q : Int) < (k : Int) := by omega
                have hq3 : ((q : Int) + 1 == 0) = false := by rw [beq_eq_false_iff_ne]; omega
                have HOw := Lib.hid (hown.alloc (.cells #[.int .i64 y] 3))
                have HLT := Lib.hid (fun j hj => (hown.lt j hj).1)
                have hoE : o ≤ E := by omega
                have HRE := Lib.hid hrE
                clear hown hy hrE
                go_wp2_with (first | (at_builtin; refine wpList_append_own _ rfl _ _ 22 rfl w1.heap.size 3 i0 (.int .i64 0) 1 8 Try.underlying22 hi hz0 hz1 hz2 rfl (by decide) _ _ _ rfl HOw.out ⟨_, 0, none⟩ 1 1 [.int .i64 y] rfl rfl (cell_one_new _ _ _) (fun x hx => by simp at hx; subst hx; rfl) (by unfold maxLen; omega) (by omega) (by simp; omega) ?_; intro v3 w3 hown3 hgrow3 _))
                have HB4 := Lib.hid (Below.grown (HB.out.alloc HB.out.size (.cells #[.int .i64 y] 3)) hgrow3 (by simp; omega) HLT.out)
                have HO3 := Lib.hid (show w3.ownsRow w1.heap.size 3 1 v3 (L ++ [y]).length (Li.nums (L ++ [y])) by rw [nums_snoc, List.length_append]; exact hown3)
                clear hown3 hgrow3
                go_roundw
                case rel => exact ⟨E, o2, L ++ [y], y, _, rfl, e2, by have := HRE.out; omega, by have := HRE.out; simp; omega, rfl, by have := HRE.out; first | (congr 1 <;> omega) | trace_state, HBQ, HO3.out, HNEW, HB4.out⟩
                case measure => have := HRE.out; simp [lenV]; omega
        · have HE := Lib.hid (show pg B n 0 = some L by rw [HF.out, pg_end (by rw [HML.out]; omega)]; simp) --ARM E
          have t0 : ¬ (0 : Int) < (k : Int) := by omega
          have HOw := Lib.hid hown
          clear hoi hown
          go_wp2
          go_ret2
          exact gives_eq (ok := true) (os := L) ⟨_, rfl, Li.own_le HOw.out HB1.out.size, HB1.out.trans (below_le HB.out HB1.out.size)⟩ (by rw [HR2.out, HE.out]; rfl) (by rw [HR.out, HE.out]; rfl)
end Ln
end Go.Proofs.Ytdpblijmagcgiaa
