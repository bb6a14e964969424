/- What spec.bpText answers of an increasing list of 1 to 20 pages: the text of its parts. -/
import Derived.Test.YtocmgggggdcebaaDoorLists
import Derived.Test.YtocmgggggdcebaaDoorNum
import Derived.Deep.RegionWith
import Derived.Deep.RegionHeld3
namespace Go.Proofs.YtocmgggggdcebaaDoor
open Go.RowKit
set_option linter.unusedSimpArgs false
set_option linter.unusedVariables false
theorem num_bd (x : Int) (h1 : 1 ≤ x) (h2 : x ≤ 2000) : 1 ≤ (numS x.toNat).size ∧ (numS x.toNat).size ≤ 2001 := by
  rw [numS_size]
  have := decN_length x.toNat
  omega
theorem l1Num_at (x : Int) (h1 : 1 ≤ x) (h2 : x ≤ 2000) (W : World) :
    Calls Tryd.prog 27 #[.int .i64 x] W fun e w' => e = .returned (.string (numS x.toNat)) ∧ Below W.heap.size W w' := by
  obtain ⟨n, rfl⟩ := Int.eq_ofNat_of_zero_le (show 0 ≤ x by omega)
  exact (num_any n n W (Nat.le_refl _) (by omega)).mono fun _ _ h => ⟨h.1, below_of_grown h.2.2⟩
theorem cell_on {w W : World} {g n : Nat} {zs : List Int} (h : RowAt w g 0 n zs) (hb : Below w.heap.size w W) {j : Nat} (hj : j < n) {a : Int} (ha : a = T.at_ zs j) : W.cell? ⟨g, j, none⟩ = some (.int .i64 a) := by
  have := (h.on hb).2.2.2 j hj
  rw [Nat.zero_add] at this
  rw [ha]; exact this
theorem cell_keep {W w1 : World} {p : Addr} {v : Value} (h : W.cell? p = some v) (hb : Below W.heap.size W w1) : w1.cell? p = some v := by
  by_cases c : p.block < W.heap.size
  · rw [hb.cell c]; exact h
  · exfalso
    unfold World.cell? at h
    rw [Array.getElem?_eq_none (by omega)] at h
    simp at h
theorem numS_list (n : Nat) : (numS n).data.toList = decN n := by show (decN n).toArray.toList = _; simp
theorem inv_arm {zs : List Int} {j q : Nat} {s S : ByteArray} (hl : j < zs.length) (hinv : T.Inv zs j s.data.toList) (hq : q + 1 = j + T.rl zs j)
    (hS : (j = 0 ∧ S.data.toList = s.data.toList ++ T.piece zs j) ∨ (0 < j ∧ S.data.toList = s.data.toList ++ [44] ++ T.piece zs j)) : T.Inv zs (q + 1) S.data.toList := by
  rw [hq]
  rcases hS with ⟨rfl, h⟩ | ⟨h0, h⟩
  · rw [h]; exact T.inv_first hl hinv
  · rw [h]; exact T.inv_next hl h0 hinv
theorem piece_one {zs : List Int} {j q : Nat} {a : Int} (hq : q + 1 = j + T.rl zs j) (hc : q = j) (ha : a = T.at_ zs j) : T.piece zs j = (numS a.toNat).data.toList := by
  unfold T.piece
  rw [if_pos (by omega), numS_list, ha]; rfl
theorem piece_two {zs : List Int} {j q : Nat} {a x : Int} (hq : q + 1 = j + T.rl zs j) (hc : q = j + 1) (ha : a = T.at_ zs j) (hx : x = T.at_ zs q) : T.piece zs j = (numS a.toNat).data.toList ++ [44] ++ (numS x.toNat).data.toList := by
  unfold T.piece
  rw [if_neg (by omega), if_pos (by omega), numS_list, numS_list, ha, hx, hc]; rfl
theorem piece_many {zs : List Int} {j q : Nat} {a x : Int} (hq : q + 1 = j + T.rl zs j) (hc : j + 2 ≤ q) (ha : a = T.at_ zs j) (hx : x = T.at_ zs q) : T.piece zs j = (numS a.toNat).data.toList ++ [45] ++ (numS x.toNat).data.toList := by
  unfold T.piece
  rw [if_neg (by omega), if_neg (by omega), numS_list, numS_list, ha, hx, show q = j + T.rl zs j - 1 from by omega]; rfl
set_option maxRecDepth 100000 in
set_option maxHeartbeats 4000000 in
theorem bpText_any (g n cap : Nat) (zs : List Int) (w : World) (h : RowAt w g 0 n zs) (hp : Pages zs) :
    Calls Tryd.prog 14 #[.slice (some ⟨g, 0, none⟩) n cap] w fun e w' => e = .returned (.string ⟨(T.text zs).toArray⟩) ∧ Below w.heap.size w w' := by
  have HL := Lib.hid h.1
  have HC := Lib.hid h
  have HP := Lib.hid hp
  have hn20 : n ≤ 20 := by rw [← h.1]; exact hp.2.1
  have hn1 : 1 ≤ n := by rw [← h.1]; exact hp.1
  clear h hp
  go_enter Tryd.func14, Tryd.ntmps14
  go_wp2_with fail
  go_loopw [3, 4] (fun o i wr => ∃ (j : Nat) (s : ByteArray), j ≤ n ∧ i = .int .i64 (j : Int) ∧ o = .string s ∧ T.Inv zs j s.data.toList ∧ s.size ≤ 5000 * j ∧ Below w.heap.size w wr) (fun _ i _ => ((n : Int) - intOf i).toNat)
  case atStart => exact ⟨0, ByteArray.empty, by omega, rfl, rfl, Or.inl ⟨rfl, rfl⟩, by simp, Below.refl _ _⟩
  case round =>
    obtain ⟨j, s, hj, rfl, rfl, hinv, hsz, hb⟩ := hrel
    by_cases hlt : j < n
    · have HR : Hid (T.Run zs j 1) := Lib.hid (T.run_first (by rw [HL.out]; exact hlt))
      have HI := Lib.hid hinv
      clear hinv
      go_wp2_with fail
      go_loopw [5] (fun k wi => ∃ q : Nat, j ≤ q ∧ q < n ∧ k = .int .i64 (q : Int) ∧ T.Run zs j (q - j + 1) ∧ Below w.heap.size w wi) (fun k _ => ((n : Int) - intOf k).toNat)
      case atStart => exact ⟨j, by omega, hlt, rfl, by rw [Nat.sub_self]; exact HR.out, hb⟩
      case round =>
        obtain ⟨q, hq1, hq2, rfl, hrun, hb2⟩ := hrel
        have hrow := HC.out.on hb2
        have gq := HP.out.2.2 q (by rw [HL.out]; exact hq2)
        obtain ⟨x, hx⟩ : ∃ x, x = T.at_ zs q := ⟨_, rfl⟩
        have hcq := hrow.2.2.2 q hq2
        rw [Nat.zero_add, show zs.getD q 0 = x from hx.symm] at hcq
        have hx1 : 1 ≤ x := by rw [hx]; exact gq.1
        have hx2 : x ≤ 2000 := by rw [hx]; exact gq.2.1
        have HX := Lib.hid hx
        clear gq hx
        by_cases hlt2 : (q : Int) + 1 < n
        · have hcr := hrow.2.2.2 (q + 1) (by omega)
          have gr := HP.out.2.2 (q + 1) (by rw [HL.out]; omega)
          obtain ⟨y, hy⟩ : ∃ y, y = T.at_ zs (q + 1) := ⟨_, rfl⟩
          rw [Nat.zero_add, show zs.getD (q + 1) 0 = y from hy.symm] at hcr
          have hy1 : 1 ≤ y := by rw [hy]; exact gr.1
          have hy2 : y ≤ 2000 := by rw [hy]; exact gr.2.1
          have HY := Lib.hid hy
          have hxq : x = T.at_ zs j + ((q - j : Nat) : Int) := by rw [HX.out]; have := hrun.2.2 (q - j) (by omega); rw [show j + (q - j) = q from by omega] at this; exact this
          have HXQ := Lib.hid hxq
          clear gr hy hrow hxq
          by_cases hyx : y = x + 1
          · have HN : Hid (T.Run zs j (q + 1 - j + 1)) := Lib.hid (by
              rw [show q + 1 - j + 1 = (q - j + 1) + 1 from by omega]
              refine T.run_next hrun (by rw [HL.out]; omega) ?_
              rw [show j + (q - j + 1) = q + 1 from by omega, ← HY.out, hyx, HXQ.out]
              omega)
            have hqb : (y == x + 1) = true := by simp; exact hyx
            clear hyx hrun
            go_wp2_with fail
            go_quiet (fail)
            go_wp2_with fail
            go_roundw
            case rel => exact ⟨q + 1, by omega, by omega, by go_num, HN.out, below_draws hb2 _⟩
            case measure => simp [intOf]; omega
          · have HE : Hid (q - j + 1 = T.rl zs j) := Lib.hid (T.rl_is ⟨hrun, fun _ he => hyx (by
              rw [show j + (q - j + 1) = q + 1 from by omega, ← HY.out] at he
              rw [he, HXQ.out]; omega)⟩)
            have hqb : (y == x + 1) = false := by simp; exact hyx
            clear hyx hrun
            go_wp2_with fail
            go_quiet (fail)
            have hb3 := below_draws hb2 nq
            clear hb2
            obtain ⟨a, ha⟩ : ∃ a, a = T.at_ zs j := ⟨_, rfl⟩
            have gj := HP.out.2.2 j (by rw [HL.out]; exact hlt)
            have ha1 : 1 ≤ a := by rw [ha]; exact gj.1
            have ha2 : a ≤ 2000 := by rw [ha]; exact gj.2.1
            have hcj := (HC.out.on hb3).2.2.2 j hlt
            rw [Nat.zero_add, show zs.getD j 0 = a from ha.symm] at hcj
            have hcx := (HC.out.on hb3).2.2.2 q hq2
            rw [Nat.zero_add, show zs.getD q 0 = x from HX.out.symm] at hcx
            have HA := Lib.hid ha
            have C1 := Lib.hid (fun W => l1Num_at a ha1 ha2 W)
            have C2 := Lib.hid (fun W => l1Num_at x hx1 hx2 W)
            have sa := num_bd a ha1 ha2
            have sx := num_bd x hx1 hx2
            have HRL : Hid (q + 1 = j + T.rl zs j) := Lib.hid (by have := HE.out; omega)
            clear ha gj
            generalize wr.drewN nq = wc at hb3 hcj hcx ⊢
            by_cases hj0 : j = 0
            · rcases (show q = j ∨ q = j + 1 ∨ j + 2 ≤ q from by omega) with hc | hc | hc
              · have HINV : Hid (T.Inv zs (q + 1) ((s ++ numS a.toNat) : ByteArray).data.toList) := Lib.hid (by
                  refine inv_arm (by rw [HL.out]; exact hlt) HI.out HRL.out (Or.inl ⟨hj0, ?_⟩)
                  rw [piece_one HRL.out hc HA.out]
                  simp [ByteArray.data_append, List.append_assoc])
                have t0 : ((q : Int) - (j : Int) == 0) = true := by simp; omega
                have p0 : ¬ (0 : Int) < (j : Int) := by omega
                have HSZ : Hid (((s ++ numS a.toNat) : ByteArray).size ≤ 5000 * (q + 1)) := Lib.hid (by have e44 : (⟨#[44]⟩ : ByteArray).size = 1 := rfl; have e45 : (⟨#[45]⟩ : ByteArray).size = 1 := rfl; simp only [ByteArray.size_append, e44, e45]; omega)
                clear hc hj0
                go_wp2_with fail
                refine (C1.out _).mono ?_
                rintro e w1 ⟨rfl, hb4⟩
                go_wp2_with fail
                go_roundw
                case rel => exact ⟨q + 1, _, by omega, by go_num, rfl, HINV.out, HSZ.out, hb3.trans (hb4.mono hb3.size)⟩
                case measure => simp [intOf]; omega
              · have HINV : Hid (T.Inv zs (q + 1) ((s ++ ((numS a.toNat ++ ⟨#[44]⟩) ++ numS x.toNat)) : ByteArray).data.toList) := Lib.hid (by
                  refine inv_arm (by rw [HL.out]; exact hlt) HI.out HRL.out (Or.inl ⟨hj0, ?_⟩)
                  rw [piece_two HRL.out hc HA.out HX.out]
                  simp [ByteArray.data_append, List.append_assoc])
                have t0 : ((q : Int) - (j : Int) == 0) = false := by simp; omega
                have t1 : ((q : Int) - (j : Int) == 1) = true := by simp; omega
                have p0 : ¬ (0 : Int) < (j : Int) := by omega
                have HSZ : Hid (((s ++ ((numS a.toNat ++ ⟨#[44]⟩) ++ numS x.toNat)) : ByteArray).size ≤ 5000 * (q + 1)) := Lib.hid (by have e44 : (⟨#[44]⟩ : ByteArray).size = 1 := rfl; have e45 : (⟨#[45]⟩ : ByteArray).size = 1 := rfl; simp only [ByteArray.size_append, e44, e45]; omega)
                clear hc hj0
                go_wp2_with fail
                have hs1 : (numS a.toNat).size + (⟨#[44]⟩ : ByteArray).size ≤ 9223372036854775807 := by have e : (⟨#[44]⟩ : ByteArray).size = 1 := rfl; omega
                have hs2 : (numS a.toNat ++ ⟨#[44]⟩ : ByteArray).size + (numS x.toNat).size ≤ 9223372036854775807 := by have e : (⟨#[44]⟩ : ByteArray).size = 1 := rfl; rw [ByteArray.size_append]; omega
                have hs3 : (s : ByteArray).size + ((numS a.toNat ++ ⟨#[44]⟩) ++ numS x.toNat : ByteArray).size ≤ 9223372036854775807 := by have e : (⟨#[44]⟩ : ByteArray).size = 1 := rfl; have e4 : (⟨#[44]⟩ : ByteArray).size = 1 := rfl; simp only [ByteArray.size_append, e, e4]; omega
                have r1 : ∀ W : World, (Op.stringOp .add (numS a.toNat) ⟨#[44]⟩).run Tryd.prog W = .ok (.string (numS a.toNat ++ ⟨#[44]⟩)) W := fun W => run_string_add_sum W _ _ hs1
                have r2 : ∀ W : World, (Op.stringOp .add (numS a.toNat ++ ⟨#[44]⟩) (numS x.toNat)).run Tryd.prog W = .ok (.string ((numS a.toNat ++ ⟨#[44]⟩) ++ numS x.toNat)) W := fun W => run_string_add_sum W _ _ hs2
                have r3 : ∀ W : World, (Op.stringOp .add s ((numS a.toNat ++ ⟨#[44]⟩) ++ numS x.toNat)).run Tryd.prog W = .ok (.string (s ++ ((numS a.toNat ++ ⟨#[44]⟩) ++ numS x.toNat))) W := fun W => run_string_add_sum W _ _ hs3
                clear hs1 hs2 hs3
                go_region_held3 (fun w' => w'.cell? ⟨g, j, none⟩ = some (.int .i64 a) ∧ w'.cell? ⟨g, q, none⟩ = some (.int .i64 x)) (first | exact ⟨hcj, hcx⟩ | exact ⟨hcj1, hcx1⟩ | exact ⟨hcj2, hcx2⟩ | go_keep) (first | (go_at_call_of 27 a; refine (C1.out _).mono ?_; rintro e w1 ⟨rfl, hb4⟩; have hcj1 := cell_keep (p := ⟨g, j, none⟩) (v := .int .i64 a) (by first | assumption | exact hcj) hb4; have hcx1 := cell_keep (p := ⟨g, q, none⟩) (v := .int .i64 x) (by first | assumption | exact hcx) hb4) | (go_at_call_of 27 x; refine (C2.out _).mono ?_; rintro e w2 ⟨rfl, hb5⟩; have hcj2 := cell_keep (p := ⟨g, j, none⟩) (v := .int .i64 a) (by first | assumption | exact hcj) hb5; have hcx2 := cell_keep (p := ⟨g, q, none⟩) (v := .int .i64 x) (by first | assumption | exact hcx) hb5))
                all_goals
                  go_wp2_with fail
                  go_roundw
                  case rel =>
                    first
                      | exact ⟨q + 1, _, by omega, by go_num, rfl, HINV.out, HSZ.out, (hb3.drew.trans (hb4.mono hb3.size)).trans (hb5.mono (Nat.le_trans hb3.size hb4.size))⟩
                      | exact ⟨q + 1, _, by omega, by go_num, rfl, HINV.out, HSZ.out, (hb3.drew.trans (hb5.mono hb3.size)).trans (hb4.mono (Nat.le_trans hb3.size hb5.size))⟩
                  case measure => simp [intOf]; omega
              · have HINV : Hid (T.Inv zs (q + 1) ((s ++ ((numS a.toNat ++ ⟨#[45]⟩) ++ numS x.toNat)) : ByteArray).data.toList) := Lib.hid (by
                  refine inv_arm (by rw [HL.out]; exact hlt) HI.out HRL.out (Or.inl ⟨hj0, ?_⟩)
                  rw [piece_many HRL.out hc HA.out HX.out]
                  simp [ByteArray.data_append, List.append_assoc])
                have t0 : ((q : Int) - (j : Int) == 0) = false := by simp; omega
                have t1 : ((q : Int) - (j : Int) == 1) = false := by simp; omega
                have p0 : ¬ (0 : Int) < (j : Int) := by omega
                have HSZ : Hid (((s ++ ((numS a.toNat ++ ⟨#[45]⟩) ++ numS x.toNat)) : ByteArray).size ≤ 5000 * (q + 1)) := Lib.hid (by have e44 : (⟨#[44]⟩ : ByteArray).size = 1 := rfl; have e45 : (⟨#[45]⟩ : ByteArray).size = 1 := rfl; simp only [ByteArray.size_append, e44, e45]; omega)
                clear hc hj0
                go_wp2_with fail
                have hs1 : (numS a.toNat).size + (⟨#[45]⟩ : ByteArray).size ≤ 9223372036854775807 := by have e : (⟨#[45]⟩ : ByteArray).size = 1 := rfl; omega
                have hs2 : (numS a.toNat ++ ⟨#[45]⟩ : ByteArray).size + (numS x.toNat).size ≤ 9223372036854775807 := by have e : (⟨#[45]⟩ : ByteArray).size = 1 := rfl; rw [ByteArray.size_append]; omega
                have hs3 : (s : ByteArray).size + ((numS a.toNat ++ ⟨#[45]⟩) ++ numS x.toNat : ByteArray).size ≤ 9223372036854775807 := by have e : (⟨#[45]⟩ : ByteArray).size = 1 := rfl; have e4 : (⟨#[44]⟩ : ByteArray).size = 1 := rfl; simp only [ByteArray.size_append, e, e4]; omega
                have r1 : ∀ W : World, (Op.stringOp .add (numS a.toNat) ⟨#[45]⟩).run Tryd.prog W = .ok (.string (numS a.toNat ++ ⟨#[45]⟩)) W := fun W => run_string_add_sum W _ _ hs1
                have r2 : ∀ W : World, (Op.stringOp .add (numS a.toNat ++ ⟨#[45]⟩) (numS x.toNat)).run Tryd.prog W = .ok (.string ((numS a.toNat ++ ⟨#[45]⟩) ++ numS x.toNat)) W := fun W => run_string_add_sum W _ _ hs2
                have r3 : ∀ W : World, (Op.stringOp .add s ((numS a.toNat ++ ⟨#[45]⟩) ++ numS x.toNat)).run Tryd.prog W = .ok (.string (s ++ ((numS a.toNat ++ ⟨#[45]⟩) ++ numS x.toNat))) W := fun W => run_string_add_sum W _ _ hs3
                clear hs1 hs2 hs3
                go_region_held3 (fun w' => w'.cell? ⟨g, j, none⟩ = some (.int .i64 a) ∧ w'.cell? ⟨g, q, none⟩ = some (.int .i64 x)) (first | exact ⟨hcj, hcx⟩ | exact ⟨hcj1, hcx1⟩ | exact ⟨hcj2, hcx2⟩ | go_keep) (first | (go_at_call_of 27 a; refine (C1.out _).mono ?_; rintro e w1 ⟨rfl, hb4⟩; have hcj1 := cell_keep (p := ⟨g, j, none⟩) (v := .int .i64 a) (by first | assumption | exact hcj) hb4; have hcx1 := cell_keep (p := ⟨g, q, none⟩) (v := .int .i64 x) (by first | assumption | exact hcx) hb4) | (go_at_call_of 27 x; refine (C2.out _).mono ?_; rintro e w2 ⟨rfl, hb5⟩; have hcj2 := cell_keep (p := ⟨g, j, none⟩) (v := .int .i64 a) (by first | assumption | exact hcj) hb5; have hcx2 := cell_keep (p := ⟨g, q, none⟩) (v := .int .i64 x) (by first | assumption | exact hcx) hb5))
                all_goals
                  go_wp2_with fail
                  go_roundw
                  case rel =>
                    first
                      | exact ⟨q + 1, _, by omega, by go_num, rfl, HINV.out, HSZ.out, (hb3.drew.trans (hb4.mono hb3.size)).trans (hb5.mono (Nat.le_trans hb3.size hb4.size))⟩
                      | exact ⟨q + 1, _, by omega, by go_num, rfl, HINV.out, HSZ.out, (hb3.drew.trans (hb5.mono hb3.size)).trans (hb4.mono (Nat.le_trans hb3.size hb5.size))⟩
                  case measure => simp [intOf]; omega
            · have hj0 : 0 < j := by omega
              rcases (show q = j ∨ q = j + 1 ∨ j + 2 ≤ q from by omega) with hc | hc | hc
              · have HINV : Hid (T.Inv zs (q + 1) (((s ++ ⟨#[44]⟩) ++ numS a.toNat) : ByteArray).data.toList) := Lib.hid (by
                  refine inv_arm (by rw [HL.out]; exact hlt) HI.out HRL.out (Or.inr ⟨hj0, ?_⟩)
                  rw [piece_one HRL.out hc HA.out]
                  simp [ByteArray.data_append, List.append_assoc])
                have t0 : ((q : Int) - (j : Int) == 0) = true := by simp; omega
                have p0 : (0 : Int) < (j : Int) := by omega
                have HSZ : Hid ((((s ++ ⟨#[44]⟩) ++ numS a.toNat) : ByteArray).size ≤ 5000 * (q + 1)) := Lib.hid (by have e44 : (⟨#[44]⟩ : ByteArray).size = 1 := rfl; have e45 : (⟨#[45]⟩ : ByteArray).size = 1 := rfl; simp only [ByteArray.size_append, e44, e45]; omega)
                clear hc hj0
                go_wp2_with fail
                refine (C1.out _).mono ?_
                rintro e w1 ⟨rfl, hb4⟩
                go_wp2_with fail
                go_roundw
                case rel => exact ⟨q + 1, _, by omega, by go_num, rfl, HINV.out, HSZ.out, hb3.trans (hb4.mono hb3.size)⟩
                case measure => simp [intOf]; omega
              · have HINV : Hid (T.Inv zs (q + 1) (((s ++ ⟨#[44]⟩) ++ ((numS a.toNat ++ ⟨#[44]⟩) ++ numS x.toNat)) : ByteArray).data.toList) := Lib.hid (by
                  refine inv_arm (by rw [HL.out]; exact hlt) HI.out HRL.out (Or.inr ⟨hj0, ?_⟩)
                  rw [piece_two HRL.out hc HA.out HX.out]
                  simp [ByteArray.data_append, List.append_assoc])
                have t0 : ((q : Int) - (j : Int) == 0) = false := by simp; omega
                have t1 : ((q : Int) - (j : Int) == 1) = true := by simp; omega
                have p0 : (0 : Int) < (j : Int) := by omega
                have HSZ : Hid ((((s ++ ⟨#[44]⟩) ++ ((numS a.toNat ++ ⟨#[44]⟩) ++ numS x.toNat)) : ByteArray).size ≤ 5000 * (q + 1)) := Lib.hid (by have e44 : (⟨#[44]⟩ : ByteArray).size = 1 := rfl; have e45 : (⟨#[45]⟩ : ByteArray).size = 1 := rfl; simp only [ByteArray.size_append, e44, e45]; omega)
                clear hc hj0
                go_wp2_with fail
                have hs1 : (numS a.toNat).size + (⟨#[44]⟩ : ByteArray).size ≤ 9223372036854775807 := by have e : (⟨#[44]⟩ : ByteArray).size = 1 := rfl; omega
                have hs2 : (numS a.toNat ++ ⟨#[44]⟩ : ByteArray).size + (numS x.toNat).size ≤ 9223372036854775807 := by have e : (⟨#[44]⟩ : ByteArray).size = 1 := rfl; rw [ByteArray.size_append]; omega
                have hs3 : ((s ++ ⟨#[44]⟩) : ByteArray).size + ((numS a.toNat ++ ⟨#[44]⟩) ++ numS x.toNat : ByteArray).size ≤ 9223372036854775807 := by have e : (⟨#[44]⟩ : ByteArray).size = 1 := rfl; have e4 : (⟨#[44]⟩ : ByteArray).size = 1 := rfl; simp only [ByteArray.size_append, e, e4]; omega
                have r1 : ∀ W : World, (Op.stringOp .add (numS a.toNat) ⟨#[44]⟩).run Tryd.prog W = .ok (.string (numS a.toNat ++ ⟨#[44]⟩)) W := fun W => run_string_add_sum W _ _ hs1
                have r2 : ∀ W : World, (Op.stringOp .add (numS a.toNat ++ ⟨#[44]⟩) (numS x.toNat)).run Tryd.prog W = .ok (.string ((numS a.toNat ++ ⟨#[44]⟩) ++ numS x.toNat)) W := fun W => run_string_add_sum W _ _ hs2
                have r3 : ∀ W : World, (Op.stringOp .add (s ++ ⟨#[44]⟩) ((numS a.toNat ++ ⟨#[44]⟩) ++ numS x.toNat)).run Tryd.prog W = .ok (.string ((s ++ ⟨#[44]⟩) ++ ((numS a.toNat ++ ⟨#[44]⟩) ++ numS x.toNat))) W := fun W => run_string_add_sum W _ _ hs3
                clear hs1 hs2 hs3
                go_region_held3 (fun w' => w'.cell? ⟨g, j, none⟩ = some (.int .i64 a) ∧ w'.cell? ⟨g, q, none⟩ = some (.int .i64 x)) (first | exact ⟨hcj, hcx⟩ | exact ⟨hcj1, hcx1⟩ | exact ⟨hcj2, hcx2⟩ | go_keep) (first | (go_at_call_of 27 a; refine (C1.out _).mono ?_; rintro e w1 ⟨rfl, hb4⟩; have hcj1 := cell_keep (p := ⟨g, j, none⟩) (v := .int .i64 a) (by first | assumption | exact hcj) hb4; have hcx1 := cell_keep (p := ⟨g, q, none⟩) (v := .int .i64 x) (by first | assumption | exact hcx) hb4) | (go_at_call_of 27 x; refine (C2.out _).mono ?_; rintro e w2 ⟨rfl, hb5⟩; have hcj2 := cell_keep (p := ⟨g, j, none⟩) (v := .int .i64 a) (by first | assumption | exact hcj) hb5; have hcx2 := cell_keep (p := ⟨g, q, none⟩) (v := .int .i64 x) (by first | assumption | exact hcx) hb5))
                all_goals
                  go_wp2_with fail
                  go_roundw
                  case rel =>
                    first
                      | exact ⟨q + 1, _, by omega, by go_num, rfl, HINV.out, HSZ.out, (hb3.drew.trans (hb4.mono hb3.size)).trans (hb5.mono (Nat.le_trans hb3.size hb4.size))⟩
                      | exact ⟨q + 1, _, by omega, by go_num, rfl, HINV.out, HSZ.out, (hb3.drew.trans (hb5.mono hb3.size)).trans (hb4.mono (Nat.le_trans hb3.size hb5.size))⟩
                  case measure => simp [intOf]; omega
              · have HINV : Hid (T.Inv zs (q + 1) (((s ++ ⟨#[44]⟩) ++ ((numS a.toNat ++ ⟨#[45]⟩) ++ numS x.toNat)) : ByteArray).data.toList) := Lib.hid (by
                  refine inv_arm (by rw [HL.out]; exact hlt) HI.out HRL.out (Or.inr ⟨hj0, ?_⟩)
                  rw [piece_many HRL.out hc HA.out HX.out]
                  simp [ByteArray.data_append, List.append_assoc])
                have t0 : ((q : Int) - (j : Int) == 0) = false := by simp; omega
                have t1 : ((q : Int) - (j : Int) == 1) = false := by simp; omega
                have p0 : (0 : Int) < (j : Int) := by omega
                have HSZ : Hid ((((s ++ ⟨#[44]⟩) ++ ((numS a.toNat ++ ⟨#[45]⟩) ++ numS x.toNat)) : ByteArray).size ≤ 5000 * (q + 1)) := Lib.hid (by have e44 : (⟨#[44]⟩ : ByteArray).size = 1 := rfl; have e45 : (⟨#[45]⟩ : ByteArray).size = 1 := rfl; simp only [ByteArray.size_append, e44, e45]; omega)
                clear hc hj0
                go_wp2_with fail
                have hs1 : (numS a.toNat).size + (⟨#[45]⟩ : ByteArray).size ≤ 9223372036854775807 := by have e : (⟨#[45]⟩ : ByteArray).size = 1 := rfl; omega
                have hs2 : (numS a.toNat ++ ⟨#[45]⟩ : ByteArray).size + (numS x.toNat).size ≤ 9223372036854775807 := by have e : (⟨#[45]⟩ : ByteArray).size = 1 := rfl; rw [ByteArray.size_append]; omega
                have hs3 : ((s ++ ⟨#[44]⟩) : ByteArray).size + ((numS a.toNat ++ ⟨#[45]⟩) ++ numS x.toNat : ByteArray).size ≤ 9223372036854775807 := by have e : (⟨#[45]⟩ : ByteArray).size = 1 := rfl; have e4 : (⟨#[44]⟩ : ByteArray).size = 1 := rfl; simp only [ByteArray.size_append, e, e4]; omega
                have r1 : ∀ W : World, (Op.stringOp .add (numS a.toNat) ⟨#[45]⟩).run Tryd.prog W = .ok (.string (numS a.toNat ++ ⟨#[45]⟩)) W := fun W => run_string_add_sum W _ _ hs1
                have r2 : ∀ W : World, (Op.stringOp .add (numS a.toNat ++ ⟨#[45]⟩) (numS x.toNat)).run Tryd.prog W = .ok (.string ((numS a.toNat ++ ⟨#[45]⟩) ++ numS x.toNat)) W := fun W => run_string_add_sum W _ _ hs2
                have r3 : ∀ W : World, (Op.stringOp .add (s ++ ⟨#[44]⟩) ((numS a.toNat ++ ⟨#[45]⟩) ++ numS x.toNat)).run Tryd.prog W = .ok (.string ((s ++ ⟨#[44]⟩) ++ ((numS a.toNat ++ ⟨#[45]⟩) ++ numS x.toNat))) W := fun W => run_string_add_sum W _ _ hs3
                clear hs1 hs2 hs3
                go_region_held3 (fun w' => w'.cell? ⟨g, j, none⟩ = some (.int .i64 a) ∧ w'.cell? ⟨g, q, none⟩ = some (.int .i64 x)) (first | exact ⟨hcj, hcx⟩ | exact ⟨hcj1, hcx1⟩ | exact ⟨hcj2, hcx2⟩ | go_keep) (first | (go_at_call_of 27 a; refine (C1.out _).mono ?_; rintro e w1 ⟨rfl, hb4⟩; have hcj1 := cell_keep (p := ⟨g, j, none⟩) (v := .int .i64 a) (by first | assumption | exact hcj) hb4; have hcx1 := cell_keep (p := ⟨g, q, none⟩) (v := .int .i64 x) (by first | assumption | exact hcx) hb4) | (go_at_call_of 27 x; refine (C2.out _).mono ?_; rintro e w2 ⟨rfl, hb5⟩; have hcj2 := cell_keep (p := ⟨g, j, none⟩) (v := .int .i64 a) (by first | assumption | exact hcj) hb5; have hcx2 := cell_keep (p := ⟨g, q, none⟩) (v := .int .i64 x) (by first | assumption | exact hcx) hb5))
                all_goals
                  go_wp2_with fail
                  go_roundw
                  case rel =>
                    first
                      | exact ⟨q + 1, _, by omega, by go_num, rfl, HINV.out, HSZ.out, (hb3.drew.trans (hb4.mono hb3.size)).trans (hb5.mono (Nat.le_trans hb3.size hb4.size))⟩
                      | exact ⟨q + 1, _, by omega, by go_num, rfl, HINV.out, HSZ.out, (hb3.drew.trans (hb5.mono hb3.size)).trans (hb4.mono (Nat.le_trans hb3.size hb5.size))⟩
                  case measure => simp [intOf]; omega
        · have HE : Hid (q - j + 1 = T.rl zs j) := Lib.hid (T.rl_is ⟨hrun, fun hh => by rw [HL.out] at hh; omega⟩)
          have hd1 : decide ((q : Int) + 1 < (n : Int)) = false := by simpa using hlt2
          have hd2 : decide (q + 1 < n) = false := by simp; omega
          clear hrow hrun hlt2
          go_wp2_with fail
          go_quiet (fail)
          have hb3 := below_draws hb2 nq
          clear hb2
          obtain ⟨a, ha⟩ : ∃ a, a = T.at_ zs j := ⟨_, rfl⟩
          have gj := HP.out.2.2 j (by rw [HL.out]; exact hlt)
          have ha1 : 1 ≤ a := by rw [ha]; exact gj.1
          have ha2 : a ≤ 2000 := by rw [ha]; exact gj.2.1
          have hcj := (HC.out.on hb3).2.2.2 j hlt
          rw [Nat.zero_add, show zs.getD j 0 = a from ha.symm] at hcj
          have hcx := (HC.out.on hb3).2.2.2 q hq2
          rw [Nat.zero_add, show zs.getD q 0 = x from HX.out.symm] at hcx
          have HA := Lib.hid ha
          have C1 := Lib.hid (fun W => l1Num_at a ha1 ha2 W)
          have C2 := Lib.hid (fun W => l1Num_at x hx1 hx2 W)
          have sa := num_bd a ha1 ha2
          have sx := num_bd x hx1 hx2
          have HRL : Hid (q + 1 = j + T.rl zs j) := Lib.hid (by have := HE.out; omega)
          clear ha gj
          generalize wr.drewN nq = wc at hb3 hcj hcx ⊢
          by_cases hj0 : j = 0
          · rcases (show q = j ∨ q = j + 1 ∨ j + 2 ≤ q from by omega) with hc | hc | hc
            · have HINV : Hid (T.Inv zs (q + 1) ((s ++ numS a.toNat) : ByteArray).data.toList) := Lib.hid (by
                refine inv_arm (by rw [HL.out]; exact hlt) HI.out HRL.out (Or.inl ⟨hj0, ?_⟩)
                rw [piece_one HRL.out hc HA.out]
                simp [ByteArray.data_append, List.append_assoc])
              have t0 : ((q : Int) - (j : Int) == 0) = true := by simp; omega
              have p0 : ¬ (0 : Int) < (j : Int) := by omega
              have HSZ : Hid (((s ++ numS a.toNat) : ByteArray).size ≤ 5000 * (q + 1)) := Lib.hid (by have e44 : (⟨#[44]⟩ : ByteArray).size = 1 := rfl; have e45 : (⟨#[45]⟩ : ByteArray).size = 1 := rfl; simp only [ByteArray.size_append, e44, e45]; omega)
              clear hc hj0
              go_wp2_with fail
              refine (C1.out _).mono ?_
              rintro e w1 ⟨rfl, hb4⟩
              go_wp2_with fail
              go_roundw
              case rel => exact ⟨q + 1, _, by omega, by go_num, rfl, HINV.out, HSZ.out, hb3.trans (hb4.mono hb3.size)⟩
              case measure => simp [intOf]; omega
            · have HINV : Hid (T.Inv zs (q + 1) ((s ++ ((numS a.toNat ++ ⟨#[44]⟩) ++ numS x.toNat)) : ByteArray).data.toList) := Lib.hid (by
                refine inv_arm (by rw [HL.out]; exact hlt) HI.out HRL.out (Or.inl ⟨hj0, ?_⟩)
                rw [piece_two HRL.out hc HA.out HX.out]
                simp [ByteArray.data_append, List.append_assoc])
              have t0 : ((q : Int) - (j : Int) == 0) = false := by simp; omega
              have t1 : ((q : Int) - (j : Int) == 1) = true := by simp; omega
              have p0 : ¬ (0 : Int) < (j : Int) := by omega
              have HSZ : Hid (((s ++ ((numS a.toNat ++ ⟨#[44]⟩) ++ numS x.toNat)) : ByteArray).size ≤ 5000 * (q + 1)) := Lib.hid (by have e44 : (⟨#[44]⟩ : ByteArray).size = 1 := rfl; have e45 : (⟨#[45]⟩ : ByteArray).size = 1 := rfl; simp only [ByteArray.size_append, e44, e45]; omega)
              clear hc hj0
              go_wp2_with fail
              have hs1 : (numS a.toNat).size + (⟨#[44]⟩ : ByteArray).size ≤ 9223372036854775807 := by have e : (⟨#[44]⟩ : ByteArray).size = 1 := rfl; omega
              have hs2 : (numS a.toNat ++ ⟨#[44]⟩ : ByteArray).size + (numS x.toNat).size ≤ 9223372036854775807 := by have e : (⟨#[44]⟩ : ByteArray).size = 1 := rfl; rw [ByteArray.size_append]; omega
              have hs3 : (s : ByteArray).size + ((numS a.toNat ++ ⟨#[44]⟩) ++ numS x.toNat : ByteArray).size ≤ 9223372036854775807 := by have e : (⟨#[44]⟩ : ByteArray).size = 1 := rfl; have e4 : (⟨#[44]⟩ : ByteArray).size = 1 := rfl; simp only [ByteArray.size_append, e, e4]; omega
              have r1 : ∀ W : World, (Op.stringOp .add (numS a.toNat) ⟨#[44]⟩).run Tryd.prog W = .ok (.string (numS a.toNat ++ ⟨#[44]⟩)) W := fun W => run_string_add_sum W _ _ hs1
              have r2 : ∀ W : World, (Op.stringOp .add (numS a.toNat ++ ⟨#[44]⟩) (numS x.toNat)).run Tryd.prog W = .ok (.string ((numS a.toNat ++ ⟨#[44]⟩) ++ numS x.toNat)) W := fun W => run_string_add_sum W _ _ hs2
              have r3 : ∀ W : World, (Op.stringOp .add s ((numS a.toNat ++ ⟨#[44]⟩) ++ numS x.toNat)).run Tryd.prog W = .ok (.string (s ++ ((numS a.toNat ++ ⟨#[44]⟩) ++ numS x.toNat))) W := fun W => run_string_add_sum W _ _ hs3
              clear hs1 hs2 hs3
              go_region_held3 (fun w' => w'.cell? ⟨g, j, none⟩ = some (.int .i64 a) ∧ w'.cell? ⟨g, q, none⟩ = some (.int .i64 x)) (first | exact ⟨hcj, hcx⟩ | exact ⟨hcj1, hcx1⟩ | exact ⟨hcj2, hcx2⟩ | go_keep) (first | (go_at_call_of 27 a; refine (C1.out _).mono ?_; rintro e w1 ⟨rfl, hb4⟩; have hcj1 := cell_keep (p := ⟨g, j, none⟩) (v := .int .i64 a) (by first | assumption | exact hcj) hb4; have hcx1 := cell_keep (p := ⟨g, q, none⟩) (v := .int .i64 x) (by first | assumption | exact hcx) hb4) | (go_at_call_of 27 x; refine (C2.out _).mono ?_; rintro e w2 ⟨rfl, hb5⟩; have hcj2 := cell_keep (p := ⟨g, j, none⟩) (v := .int .i64 a) (by first | assumption | exact hcj) hb5; have hcx2 := cell_keep (p := ⟨g, q, none⟩) (v := .int .i64 x) (by first | assumption | exact hcx) hb5))
              all_goals
                go_wp2_with fail
                go_roundw
                case rel =>
                  first
                    | exact ⟨q + 1, _, by omega, by go_num, rfl, HINV.out, HSZ.out, (hb3.drew.trans (hb4.mono hb3.size)).trans (hb5.mono (Nat.le_trans hb3.size hb4.size))⟩
                    | exact ⟨q + 1, _, by omega, by go_num, rfl, HINV.out, HSZ.out, (hb3.drew.trans (hb5.mono hb3.size)).trans (hb4.mono (Nat.le_trans hb3.size hb5.size))⟩
                case measure => simp [intOf]; omega
            · have HINV : Hid (T.Inv zs (q + 1) ((s ++ ((numS a.toNat ++ ⟨#[45]⟩) ++ numS x.toNat)) : ByteArray).data.toList) := Lib.hid (by
                refine inv_arm (by rw [HL.out]; exact hlt) HI.out HRL.out (Or.inl ⟨hj0, ?_⟩)
                rw [piece_many HRL.out hc HA.out HX.out]
                simp [ByteArray.data_append, List.append_assoc])
              have t0 : ((q : Int) - (j : Int) == 0) = false := by simp; omega
              have t1 : ((q : Int) - (j : Int) == 1) = false := by simp; omega
              have p0 : ¬ (0 : Int) < (j : Int) := by omega
              have HSZ : Hid (((s ++ ((numS a.toNat ++ ⟨#[45]⟩) ++ numS x.toNat)) : ByteArray).size ≤ 5000 * (q + 1)) := Lib.hid (by have e44 : (⟨#[44]⟩ : ByteArray).size = 1 := rfl; have e45 : (⟨#[45]⟩ : ByteArray).size = 1 := rfl; simp only [ByteArray.size_append, e44, e45]; omega)
              clear hc hj0
              go_wp2_with fail
              have hs1 : (numS a.toNat).size + (⟨#[45]⟩ : ByteArray).size ≤ 9223372036854775807 := by have e : (⟨#[45]⟩ : ByteArray).size = 1 := rfl; omega
              have hs2 : (numS a.toNat ++ ⟨#[45]⟩ : ByteArray).size + (numS x.toNat).size ≤ 9223372036854775807 := by have e : (⟨#[45]⟩ : ByteArray).size = 1 := rfl; rw [ByteArray.size_append]; omega
              have hs3 : (s : ByteArray).size + ((numS a.toNat ++ ⟨#[45]⟩) ++ numS x.toNat : ByteArray).size ≤ 9223372036854775807 := by have e : (⟨#[45]⟩ : ByteArray).size = 1 := rfl; have e4 : (⟨#[44]⟩ : ByteArray).size = 1 := rfl; simp only [ByteArray.size_append, e, e4]; omega
              have r1 : ∀ W : World, (Op.stringOp .add (numS a.toNat) ⟨#[45]⟩).run Tryd.prog W = .ok (.string (numS a.toNat ++ ⟨#[45]⟩)) W := fun W => run_string_add_sum W _ _ hs1
              have r2 : ∀ W : World, (Op.stringOp .add (numS a.toNat ++ ⟨#[45]⟩) (numS x.toNat)).run Tryd.prog W = .ok (.string ((numS a.toNat ++ ⟨#[45]⟩) ++ numS x.toNat)) W := fun W => run_string_add_sum W _ _ hs2
              have r3 : ∀ W : World, (Op.stringOp .add s ((numS a.toNat ++ ⟨#[45]⟩) ++ numS x.toNat)).run Tryd.prog W = .ok (.string (s ++ ((numS a.toNat ++ ⟨#[45]⟩) ++ numS x.toNat))) W := fun W => run_string_add_sum W _ _ hs3
              clear hs1 hs2 hs3
              go_region_held3 (fun w' => w'.cell? ⟨g, j, none⟩ = some (.int .i64 a) ∧ w'.cell? ⟨g, q, none⟩ = some (.int .i64 x)) (first | exact ⟨hcj, hcx⟩ | exact ⟨hcj1, hcx1⟩ | exact ⟨hcj2, hcx2⟩ | go_keep) (first | (go_at_call_of 27 a; refine (C1.out _).mono ?_; rintro e w1 ⟨rfl, hb4⟩; have hcj1 := cell_keep (p := ⟨g, j, none⟩) (v := .int .i64 a) (by first | assumption | exact hcj) hb4; have hcx1 := cell_keep (p := ⟨g, q, none⟩) (v := .int .i64 x) (by first | assumption | exact hcx) hb4) | (go_at_call_of 27 x; refine (C2.out _).mono ?_; rintro e w2 ⟨rfl, hb5⟩; have hcj2 := cell_keep (p := ⟨g, j, none⟩) (v := .int .i64 a) (by first | assumption | exact hcj) hb5; have hcx2 := cell_keep (p := ⟨g, q, none⟩) (v := .int .i64 x) (by first | assumption | exact hcx) hb5))
              all_goals
                go_wp2_with fail
                go_roundw
                case rel =>
                  first
                    | exact ⟨q + 1, _, by omega, by go_num, rfl, HINV.out, HSZ.out, (hb3.drew.trans (hb4.mono hb3.size)).trans (hb5.mono (Nat.le_trans hb3.size hb4.size))⟩
                    | exact ⟨q + 1, _, by omega, by go_num, rfl, HINV.out, HSZ.out, (hb3.drew.trans (hb5.mono hb3.size)).trans (hb4.mono (Nat.le_trans hb3.size hb5.size))⟩
                case measure => simp [intOf]; omega
          · have hj0 : 0 < j := by omega
            rcases (show q = j ∨ q = j + 1 ∨ j + 2 ≤ q from by omega) with hc | hc | hc
            · have HINV : Hid (T.Inv zs (q + 1) (((s ++ ⟨#[44]⟩) ++ numS a.toNat) : ByteArray).data.toList) := Lib.hid (by
                refine inv_arm (by rw [HL.out]; exact hlt) HI.out HRL.out (Or.inr ⟨hj0, ?_⟩)
                rw [piece_one HRL.out hc HA.out]
                simp [ByteArray.data_append, List.append_assoc])
              have t0 : ((q : Int) - (j : Int) == 0) = true := by simp; omega
              have p0 : (0 : Int) < (j : Int) := by omega
              have HSZ : Hid ((((s ++ ⟨#[44]⟩) ++ numS a.toNat) : ByteArray).size ≤ 5000 * (q + 1)) := Lib.hid (by have e44 : (⟨#[44]⟩ : ByteArray).size = 1 := rfl; have e45 : (⟨#[45]⟩ : ByteArray).size = 1 := rfl; simp only [ByteArray.size_append, e44, e45]; omega)
              clear hc hj0
              go_wp2_with fail
              refine (C1.out _).mono ?_
              rintro e w1 ⟨rfl, hb4⟩
              go_wp2_with fail
              go_roundw
              case rel => exact ⟨q + 1, _, by omega, by go_num, rfl, HINV.out, HSZ.out, hb3.trans (hb4.mono hb3.size)⟩
              case measure => simp [intOf]; omega
            · have HINV : Hid (T.Inv zs (q + 1) (((s ++ ⟨#[44]⟩) ++ ((numS a.toNat ++ ⟨#[44]⟩) ++ numS x.toNat)) : ByteArray).data.toList) := Lib.hid (by
                refine inv_arm (by rw [HL.out]; exact hlt) HI.out HRL.out (Or.inr ⟨hj0, ?_⟩)
                rw [piece_two HRL.out hc HA.out HX.out]
                simp [ByteArray.data_append, List.append_assoc])
              have t0 : ((q : Int) - (j : Int) == 0) = false := by simp; omega
              have t1 : ((q : Int) - (j : Int) == 1) = true := by simp; omega
              have p0 : (0 : Int) < (j : Int) := by omega
              have HSZ : Hid ((((s ++ ⟨#[44]⟩) ++ ((numS a.toNat ++ ⟨#[44]⟩) ++ numS x.toNat)) : ByteArray).size ≤ 5000 * (q + 1)) := Lib.hid (by have e44 : (⟨#[44]⟩ : ByteArray).size = 1 := rfl; have e45 : (⟨#[45]⟩ : ByteArray).size = 1 := rfl; simp only [ByteArray.size_append, e44, e45]; omega)
              clear hc hj0
              go_wp2_with fail
              have hs1 : (numS a.toNat).size + (⟨#[44]⟩ : ByteArray).size ≤ 9223372036854775807 := by have e : (⟨#[44]⟩ : ByteArray).size = 1 := rfl; omega
              have hs2 : (numS a.toNat ++ ⟨#[44]⟩ : ByteArray).size + (numS x.toNat).size ≤ 9223372036854775807 := by have e : (⟨#[44]⟩ : ByteArray).size = 1 := rfl; rw [ByteArray.size_append]; omega
              have hs3 : ((s ++ ⟨#[44]⟩) : ByteArray).size + ((numS a.toNat ++ ⟨#[44]⟩) ++ numS x.toNat : ByteArray).size ≤ 9223372036854775807 := by have e : (⟨#[44]⟩ : ByteArray).size = 1 := rfl; have e4 : (⟨#[44]⟩ : ByteArray).size = 1 := rfl; simp only [ByteArray.size_append, e, e4]; omega
              have r1 : ∀ W : World, (Op.stringOp .add (numS a.toNat) ⟨#[44]⟩).run Tryd.prog W = .ok (.string (numS a.toNat ++ ⟨#[44]⟩)) W := fun W => run_string_add_sum W _ _ hs1
              have r2 : ∀ W : World, (Op.stringOp .add (numS a.toNat ++ ⟨#[44]⟩) (numS x.toNat)).run Tryd.prog W = .ok (.string ((numS a.toNat ++ ⟨#[44]⟩) ++ numS x.toNat)) W := fun W => run_string_add_sum W _ _ hs2
              have r3 : ∀ W : World, (Op.stringOp .add (s ++ ⟨#[44]⟩) ((numS a.toNat ++ ⟨#[44]⟩) ++ numS x.toNat)).run Tryd.prog W = .ok (.string ((s ++ ⟨#[44]⟩) ++ ((numS a.toNat ++ ⟨#[44]⟩) ++ numS x.toNat))) W := fun W => run_string_add_sum W _ _ hs3
              clear hs1 hs2 hs3
              go_region_held3 (fun w' => w'.cell? ⟨g, j, none⟩ = some (.int .i64 a) ∧ w'.cell? ⟨g, q, none⟩ = some (.int .i64 x)) (first | exact ⟨hcj, hcx⟩ | exact ⟨hcj1, hcx1⟩ | exact ⟨hcj2, hcx2⟩ | go_keep) (first | (go_at_call_of 27 a; refine (C1.out _).mono ?_; rintro e w1 ⟨rfl, hb4⟩; have hcj1 := cell_keep (p := ⟨g, j, none⟩) (v := .int .i64 a) (by first | assumption | exact hcj) hb4; have hcx1 := cell_keep (p := ⟨g, q, none⟩) (v := .int .i64 x) (by first | assumption | exact hcx) hb4) | (go_at_call_of 27 x; refine (C2.out _).mono ?_; rintro e w2 ⟨rfl, hb5⟩; have hcj2 := cell_keep (p := ⟨g, j, none⟩) (v := .int .i64 a) (by first | assumption | exact hcj) hb5; have hcx2 := cell_keep (p := ⟨g, q, none⟩) (v := .int .i64 x) (by first | assumption | exact hcx) hb5))
              all_goals
                go_wp2_with fail
                go_roundw
                case rel =>
                  first
                    | exact ⟨q + 1, _, by omega, by go_num, rfl, HINV.out, HSZ.out, (hb3.drew.trans (hb4.mono hb3.size)).trans (hb5.mono (Nat.le_trans hb3.size hb4.size))⟩
                    | exact ⟨q + 1, _, by omega, by go_num, rfl, HINV.out, HSZ.out, (hb3.drew.trans (hb5.mono hb3.size)).trans (hb4.mono (Nat.le_trans hb3.size hb5.size))⟩
                case measure => simp [intOf]; omega
            · have HINV : Hid (T.Inv zs (q + 1) (((s ++ ⟨#[44]⟩) ++ ((numS a.toNat ++ ⟨#[45]⟩) ++ numS x.toNat)) : ByteArray).data.toList) := Lib.hid (by
                refine inv_arm (by rw [HL.out]; exact hlt) HI.out HRL.out (Or.inr ⟨hj0, ?_⟩)
                rw [piece_many HRL.out hc HA.out HX.out]
                simp [ByteArray.data_append, List.append_assoc])
              have t0 : ((q : Int) - (j : Int) == 0) = false := by simp; omega
              have t1 : ((q : Int) - (j : Int) == 1) = false := by simp; omega
              have p0 : (0 : Int) < (j : Int) := by omega
              have HSZ : Hid ((((s ++ ⟨#[44]⟩) ++ ((numS a.toNat ++ ⟨#[45]⟩) ++ numS x.toNat)) : ByteArray).size ≤ 5000 * (q + 1)) := Lib.hid (by have e44 : (⟨#[44]⟩ : ByteArray).size = 1 := rfl; have e45 : (⟨#[45]⟩ : ByteArray).size = 1 := rfl; simp only [ByteArray.size_append, e44, e45]; omega)
              clear hc hj0
              go_wp2_with fail
              have hs1 : (numS a.toNat).size + (⟨#[45]⟩ : ByteArray).size ≤ 9223372036854775807 := by have e : (⟨#[45]⟩ : ByteArray).size = 1 := rfl; omega
              have hs2 : (numS a.toNat ++ ⟨#[45]⟩ : ByteArray).size + (numS x.toNat).size ≤ 9223372036854775807 := by have e : (⟨#[45]⟩ : ByteArray).size = 1 := rfl; rw [ByteArray.size_append]; omega
              have hs3 : ((s ++ ⟨#[44]⟩) : ByteArray).size + ((numS a.toNat ++ ⟨#[45]⟩) ++ numS x.toNat : ByteArray).size ≤ 9223372036854775807 := by have e : (⟨#[45]⟩ : ByteArray).size = 1 := rfl; have e4 : (⟨#[44]⟩ : ByteArray).size = 1 := rfl; simp only [ByteArray.size_append, e, e4]; omega
              have r1 : ∀ W : World, (Op.stringOp .add (numS a.toNat) ⟨#[45]⟩).run Tryd.prog W = .ok (.string (numS a.toNat ++ ⟨#[45]⟩)) W := fun W => run_string_add_sum W _ _ hs1
              have r2 : ∀ W : World, (Op.stringOp .add (numS a.toNat ++ ⟨#[45]⟩) (numS x.toNat)).run Tryd.prog W = .ok (.string ((numS a.toNat ++ ⟨#[45]⟩) ++ numS x.toNat)) W := fun W => run_string_add_sum W _ _ hs2
              have r3 : ∀ W : World, (Op.stringOp .add (s ++ ⟨#[44]⟩) ((numS a.toNat ++ ⟨#[45]⟩) ++ numS x.toNat)).run Tryd.prog W = .ok (.string ((s ++ ⟨#[44]⟩) ++ ((numS a.toNat ++ ⟨#[45]⟩) ++ numS x.toNat))) W := fun W => run_string_add_sum W _ _ hs3
              clear hs1 hs2 hs3
              go_region_held3 (fun w' => w'.cell? ⟨g, j, none⟩ = some (.int .i64 a) ∧ w'.cell? ⟨g, q, none⟩ = some (.int .i64 x)) (first | exact ⟨hcj, hcx⟩ | exact ⟨hcj1, hcx1⟩ | exact ⟨hcj2, hcx2⟩ | go_keep) (first | (go_at_call_of 27 a; refine (C1.out _).mono ?_; rintro e w1 ⟨rfl, hb4⟩; have hcj1 := cell_keep (p := ⟨g, j, none⟩) (v := .int .i64 a) (by first | assumption | exact hcj) hb4; have hcx1 := cell_keep (p := ⟨g, q, none⟩) (v := .int .i64 x) (by first | assumption | exact hcx) hb4) | (go_at_call_of 27 x; refine (C2.out _).mono ?_; rintro e w2 ⟨rfl, hb5⟩; have hcj2 := cell_keep (p := ⟨g, j, none⟩) (v := .int .i64 a) (by first | assumption | exact hcj) hb5; have hcx2 := cell_keep (p := ⟨g, q, none⟩) (v := .int .i64 x) (by first | assumption | exact hcx) hb5))
              all_goals
                go_wp2_with fail
                go_roundw
                case rel =>
                  first
                    | exact ⟨q + 1, _, by omega, by go_num, rfl, HINV.out, HSZ.out, (hb3.drew.trans (hb4.mono hb3.size)).trans (hb5.mono (Nat.le_trans hb3.size hb4.size))⟩
                    | exact ⟨q + 1, _, by omega, by go_num, rfl, HINV.out, HSZ.out, (hb3.drew.trans (hb5.mono hb3.size)).trans (hb4.mono (Nat.le_trans hb3.size hb5.size))⟩
                case measure => simp [intOf]; omega
    · have e : j = n := by omega
      have HO : Hid (s = ⟨(T.text zs).toArray⟩) := Lib.hid (by
        have := T.inv_end (by rw [HL.out]; omega) (by rw [HL.out]; exact e) hinv
        apply ByteArray.ext
        rw [← this])
      clear hinv e
      go_wp2_with fail
      go_ret
      exact ⟨ret_str HO.out, hb⟩
end Go.Proofs.YtocmgggggdcebaaDoor
