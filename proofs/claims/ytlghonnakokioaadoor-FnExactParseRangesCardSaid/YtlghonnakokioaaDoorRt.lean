/- Ranges as a text, from both sides. -/
import Derived.Test.YtlghonnakokioaaDoorSrc
import Derived.Maps.AppendAt
namespace Go.Proofs.YtlghonnakokioaaDoor
open Go.RowKit Go.Joins Go.Deep Go.ChangeShapes Go.WideShapes
set_option linter.unusedVariables false
set_option linter.unusedSimpArgs false
namespace Rt
open P Rg Gm Sr
/-- the text of range k -/
def tx (zs : List Int) (k : Nat) : List UInt8 := sh (zs.getD (k * 2) 0).toNat (zs.getD (k * 2 + 1) 0).toNat
def ps (zs : List Int) (k : Nat) : List (List UInt8) := (List.range k).map (tx zs)
/-- the first k, with , between them -/
def rj (zs : List Int) (k : Nat) : List UInt8 := Lib.join (ps zs k) [44]
theorem ps_len (zs : List Int) (k : Nat) : (ps zs k).length = k := by simp [ps]
theorem ps_next (zs : List Int) (k : Nat) : ps zs (k + 1) = ps zs k ++ [tx zs k] := by simp [ps, List.range_succ]
theorem join_snoc (xs : List (List UInt8)) (x sep : List UInt8) (h : xs ≠ []) : Lib.join (xs ++ [x]) sep = Lib.join xs sep ++ sep ++ x := by
  cases xs with
  | nil => exact absurd rfl h
  | cons y r =>
    rw [List.cons_append, Lib.join_cons, Lib.join_cons]
    simp [Lib.joinTail, List.append_assoc]
theorem rj_zero (zs : List Int) : rj zs 0 = [] := by unfold rj ps; rw [List.range_zero]; exact Lib.join_nil _
theorem rj_first (zs : List Int) : rj zs 1 = tx zs 0 := by
  unfold rj
  rw [ps_next]
  show Lib.join [tx zs 0] [44] = _
  rw [Lib.join_one]
theorem rj_next (zs : List Int) (k : Nat) (h : k ≠ 0) : rj zs (k + 1) = rj zs k ++ [44] ++ tx zs k := by
  unfold rj
  rw [ps_next, join_snoc _ _ _ (fun e => h (by have := congrArg List.length e; rw [ps_len] at this; simpa using this))]
theorem tail_len (f t : Nat) : (tail f t).length ≤ (decN t).length := by
  unfold tail
  split
  · rw [List.length_drop]; omega
  · exact Nat.le_refl _
theorem sh_len {f t : Nat} (hf : f ≤ 2000) (ht : t ≤ 2000) : (sh f t).length ≤ 9 := by
  have h1 := (decN_short f hf).1
  have h2 := (decN_short t ht).1
  have h3 := tail_len f t
  unfold sh
  split
  · omega
  · simp only [List.length_append, List.length_cons]; omega
theorem at_of {zs : List Int} {k : Nat} (h : okk zs k = true) : rng (zs.getD (k * 2) 0) (zs.getD (k * 2 + 1) 0) = true := (rng_iff _ _).2 ((okk_iff zs k).1 h).1
theorem tx_len {zs : List Int} {k : Nat} (h : okk zs k = true) : (tx zs k).length ≤ 9 := by
  obtain ⟨F, T, e1, e2, h1, h2, h3⟩ := nat_of (at_of h)
  unfold tx
  exact sh_len (by omega) (by omega)
theorem rj_len {zs : List Int} {n : Nat} (h : ∀ k, k < n → okk zs k = true) (k : Nat) (hk : k ≤ n) : (rj zs k).length ≤ 10 * k := by
  induction k with
  | zero => rw [rj_zero]; simp
  | succ k ih =>
    have h1 := ih (by omega)
    have h2 := tx_len (h k (by omega))
    by_cases e : k = 0
    · subst e; rw [rj_first]; omega
    · rw [rj_next zs k e]
      simp only [List.length_append, List.length_cons, List.length_nil]
      omega
theorem cat2 (a b : List UInt8) : ((⟨a.toArray⟩ : ByteArray) ++ ⟨b.toArray⟩) = ⟨(a ++ b).toArray⟩ := by
  apply ByteArray.ext
  simp
theorem s44 : (⟨#[44]⟩ : ByteArray).size = 1 := rfl
theorem v_s {a b : ByteArray} (h : a = b) : Value.string a = .string b := by rw [h]
theorem cat44 (a b : List UInt8) : (((⟨a.toArray⟩ : ByteArray) ++ ⟨#[44]⟩) ++ ⟨b.toArray⟩) = ⟨(a ++ [44] ++ b).toArray⟩ := by
  apply ByteArray.ext
  simp
set_option maxRecDepth 100000 in
set_option maxHeartbeats 2000000 in
theorem ixText_any {b1 g len cap : Nat} {zs : List Int} {w : World} (h : Own w b1 (.slice (some ⟨g, 0, none⟩) len cap) len zs) (hg : good zs len = true) :
    Calls Tryd.prog 41 #[.slice (some ⟨g, 0, none⟩) len cap] w (Ret (.string ⟨(rj zs len).toArray⟩) w) := by
  have HO := Lib.hid h
  have HG := Lib.hid ((good_iff zs len).1 hg).2
  have h20 := ((good_iff zs len).1 hg).1
  clear h hg
  go_enter Tryd.func41, Tryd.ntmps41
  go_wp2
  go_loopw [3, 8] (fun o i wr => ∃ k : Nat, k ≤ len ∧ i = .int .i64 (k : Int) ∧ o = .string ⟨(rj zs k).toArray⟩ ∧ Below w.heap.size w wr) (fun _ i _ => ((len : Int) - intOf i).toNat)
  case atStart => exact ⟨0, by omega, rfl, by rw [rj_zero], Below.refl _ _⟩
  case round =>
    obtain ⟨k, hk, rfl, rfl, hb⟩ := hrel
    have hl := rj_len HG.out k hk
    by_cases hlt : (k : Int) < len
    · have hk2 : k < len := by omega
      obtain ⟨q0, q1⟩ := cells2 (Li.own_on HO.out hb) (k := k) hk2
      have ht := tx_len (HG.out k hk2)
      obtain ⟨F, T, e1, e2, h1, h2, h3⟩ := nat_of (at_of (HG.out k hk2))
      have EX : tx zs k = sh F T := by unfold tx; rw [e1, e2, Int.toNat_natCast, Int.toNat_natCast]
      have CS := Lib.hid (fun W => ixShort_any F T (by omega) h3 W)
      have EN := Lib.hid (rj_next zs k)
      have E1 := Lib.hid (rj_first zs)
      rw [EX] at EN ht
      have EX2 := Lib.hid EX
      rw [e1] at q0
      rw [e2] at q1
      have HB := Lib.hid (hb.alloc hb.size (.cells #[.int .i64 (F : Int), .int .i64 (T : Int)] 26))
      clear hb e1 e2 EX
      obtain ⟨b, hb⟩ : ∃ b, sh F T = b := ⟨_, rfl⟩
      rw [hb] at CS EN ht EX2
      clear hb
      have X := B2.new wr (.int .i64 (F : Int)) (.int .i64 (T : Int)) 26
      obtain ⟨-, x0, x1⟩ := id X
      by_cases hk0 : (0 : Int) < k
      · have ek : k ≠ 0 := by omega
        have EN2 := Lib.hid (EN.out ek)
        clear EN E1 EX2
        obtain ⟨a, ha⟩ : ∃ a, rj zs k = a := ⟨_, rfl⟩
        rw [ha] at hl EN2 ⊢
        clear ha
        have r1 : ∀ W : World, (Op.stringOp .add ⟨a.toArray⟩ ⟨#[44]⟩).run Tryd.prog W = .ok (.string (⟨a.toArray⟩ ++ ⟨#[44]⟩)) W := fun W => run_string_add_sum W _ _ (by rw [sz a, s44]; omega)
        have r2 : ∀ W : World, (Op.stringOp .add (⟨a.toArray⟩ ++ ⟨#[44]⟩) ⟨b.toArray⟩).run Tryd.prog W = .ok (.string ((⟨a.toArray⟩ ++ ⟨#[44]⟩) ++ ⟨b.toArray⟩)) W := fun W => run_string_add_sum W _ _ (by rw [ByteArray.size_append, sz a, sz b, s44]; omega)
        go_wp2_with (first | (go_at_call 33; refine (CS.out _).mono ?_; rintro e w2 ⟨rfl, hb3⟩))
        go_roundw
        case rel => exact ⟨k + 1, by omega, by go_num, v_s (by rw [EN2.out]; exact cat44 _ _), HB.out.trans (Rg.below_le hb3 HB.out.size)⟩
        case measure => simp [intOf]; omega
      · have ek : k = 0 := by omega
        subst ek
        have E2 := Lib.hid (show rj zs 1 = b by rw [E1.out, EX2.out])
        clear EN E1 EX2
        rw [rj_zero]
        have r2 : ∀ W : World, (Op.stringOp .add ⟨([] : List UInt8).toArray⟩ ⟨b.toArray⟩).run Tryd.prog W = .ok (.string (⟨([] : List UInt8).toArray⟩ ++ ⟨b.toArray⟩)) W := fun W => run_string_add_sum W _ _ (by rw [sz [], sz b]; simp; omega)
        go_wp2_with (first | (go_at_call 33; refine (CS.out _).mono ?_; rintro e w2 ⟨rfl, hb3⟩))
        go_roundw
        case rel => exact ⟨1, by omega, by go_num, v_s (by rw [E2.out]; exact cat2 [] b), HB.out.trans (Rg.below_le hb3 HB.out.size)⟩
        case measure => simp [intOf]; omega
    · have E := Lib.hid (show k = len by omega)
      go_wp2
      go_ret
      exact ⟨ret_s (by rw [E.out]), hb⟩
end Rt
end Go.Proofs.YtlghonnakokioaaDoor
