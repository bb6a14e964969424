/- Signs of a text, and the lengths of its words, by ranging over it: the program. -/
import Derived.Test.YtbebojahjfnkiaaDoorPk0
import Derived.Lib.OthersKept
import Derived.Laws.RangeString
import Derived.Laws.RangeAny
namespace Go.Proofs.YtbebojahjfnkiaaDoor
open Go.RowKit Go.Joins Go.Deep Go.ChangeShapes Go.WideShapes Go.Lib
set_option linter.unusedVariables false
set_option linter.unusedSimpArgs false
namespace Ln
theorem ba_size (l : List UInt8) : (⟨l.toArray⟩ : ByteArray).size = l.length := by simp [ByteArray.size]
theorem ba_at (l : List UInt8) (k : Nat) (h : k < (⟨l.toArray⟩ : ByteArray).size) : (⟨l.toArray⟩ : ByteArray)[k]'h = l[k]'(by rw [ba_size] at h; exact h) := by
  show (l.toArray)[k]'_ = _
  simp
theorem below_iter (w : World) (s : ByteArray) (pos : Nat) : Below w.heap.size w (w.iter s pos) := below_alloc1 w _
/-- signs alone, blanks to ~ -/
def asc (l : List UInt8) : Bool := l.all fun b => decide (32 ≤ b.toNat) && decide (b.toNat ≤ 126)
theorem asc_iff (l : List UInt8) : asc l = true ↔ ∀ k (h : k < l.length), 32 ≤ (l[k]).toNat ∧ (l[k]).toNat ≤ 126 := by
  unfold asc
  simp only [List.all_eq_true, Bool.and_eq_true, decide_eq_true_eq]
  exact ⟨fun h k hk => h _ (List.getElem_mem hk), fun h x hx => by obtain ⟨k, hk, rfl⟩ := List.getElem_of_mem hx; exact h k hk⟩
theorem asc_no {l : List UInt8} {k : Nat} (h : k < l.length) (hb : ¬ (32 ≤ (l[k]).toNat ∧ (l[k]).toNat ≤ 126)) : asc l = false := by
  cases h2 : asc l with
  | false => rfl
  | true => exact absurd ((asc_iff l).1 h2 k h) hb
def sgn (l : List UInt8) (M : Int) : Bool := (decide (1 ≤ (l.length : Int)) && decide ((l.length : Int) ≤ M)) && asc l
theorem nx_ascii (w : World) (l : List UInt8) (pos : Nat) (h : pos < l.length) (b : UInt8) (hb : l[pos] = b) (ha : b.toNat < 128) (ty : TypeId) :
    (Instr.next (.pointer (some ⟨w.heap.size, 0, none⟩)) true ty).run Tryd.prog (w.iter ⟨l.toArray⟩ pos) = .ok (.tuple #[.bool true, .int .i64 (pos : Int), .int .i32 (b.toNat : Int)]) (w.iter ⟨l.toArray⟩ (pos + 1)) := by
  have hs : pos < (⟨l.toArray⟩ : ByteArray).size := by rw [ba_size]; exact h
  have e := ba_at l pos hs
  rw [hb] at e
  have r := run_next_ascii (P := Tryd.prog) w ⟨l.toArray⟩ pos ty hs (by rw [e]; exact ha)
  rw [e] at r
  exact r
theorem nx_high (w : World) (l : List UInt8) (pos : Nat) (h : pos < l.length) (ha : 128 ≤ (l[pos]).toNat) :
    ∃ (r k : Nat), 128 ≤ r ∧ ∀ ty : TypeId, (Instr.next (.pointer (some ⟨w.heap.size, 0, none⟩)) true ty).run Tryd.prog (w.iter ⟨l.toArray⟩ pos) = .ok (.tuple #[.bool true, .int .i64 (pos : Int), .int .i32 (r : Int)]) (w.iter ⟨l.toArray⟩ k) := by
  have hs : pos < (⟨l.toArray⟩ : ByteArray).size := by rw [ba_size]; exact h
  have e := ba_at l pos hs
  exact ⟨_, _, (decode_high ⟨l.toArray⟩ pos hs (by rw [e]; exact ha)).1, fun ty => run_next_any (P := Tryd.prog) w ⟨l.toArray⟩ pos ty hs⟩
theorem nx_end (w : World) (l : List UInt8) (pos : Nat) (h : ¬ pos < l.length) (ty : TypeId) :
    (Instr.next (.pointer (some ⟨w.heap.size, 0, none⟩)) true ty).run Tryd.prog (w.iter ⟨l.toArray⟩ pos) = .ok (.tuple #[.bool false]) (w.iter ⟨l.toArray⟩ pos) :=
  run_next_end (P := Tryd.prog) w ⟨l.toArray⟩ pos ty (by rw [ba_size]; exact h)
set_option maxRecDepth 100000 in
set_option maxHeartbeats 2000000 in
theorem hasSigns_any (l : List UInt8) (M : Int) (hl : l.length ≤ 1048576) (w : World) :
    Calls Tryd.prog 35 #[.string ⟨l.toArray⟩, .int .i64 M] w (Ret (.bool (sgn l M)) w) := by
  have hsz := ba_size l
  obtain ⟨n, hn⟩ : ∃ n, l.length = n := ⟨_, rfl⟩
  have HN := Lib.hid hn
  have HV := Lib.hid (show sgn l M = ((decide (1 ≤ (n : Int)) && decide ((n : Int) ≤ M)) && asc l) by unfold sgn; rw [hn])
  rw [hn] at hsz hl
  obtain ⟨v, hv⟩ : ∃ v, sgn l M = v := ⟨_, rfl⟩
  rw [hv] at HV ⊢
  clear hn hv
  by_cases c1 : (n : Int) < 1
  · have E := Lib.hid (show v = false by rw [HV.out, show decide (1 ≤ (n : Int)) = false by simp; omega]; rfl)
    go_enter Tryd.func35, Tryd.ntmps35
    go_wp2
    go_ret
    exact ⟨rb E.out rfl, Below.refl _ _⟩
  · by_cases c2 : M < (n : Int)
    · have E := Lib.hid (show v = false by rw [HV.out, show decide ((n : Int) ≤ M) = false by simp; omega]; simp)
      have t1 : decide ((n : Int) < 1) = false := decide_eq_false c1
      clear c1
      go_enter Tryd.func35, Tryd.ntmps35
      go_wp2
      go_ret
      exact ⟨rb E.out rfl, Below.refl _ _⟩
    · have E := Lib.hid (show v = asc l by rw [HV.out, show decide (1 ≤ (n : Int)) = true by simp; omega, show decide ((n : Int) ≤ M) = true by simp; omega]; simp)
      have t1 : decide ((n : Int) < 1) = false := decide_eq_false c1
      have t2 : decide (M < (n : Int)) = false := decide_eq_false c2
      clear c1 c2
      go_enter Tryd.func35, Tryd.ntmps35
      go_wp2
      go_loopw [6] (fun _ wr => ∃ pos : Nat, pos ≤ n ∧ wr = w.iter ⟨l.toArray⟩ pos ∧ Hid (∀ j (h : j < l.length), j < pos → 32 ≤ (l[j]).toNat ∧ (l[j]).toNat ≤ 126)) (fun _ wr => n - wr.iterPos w.heap.size)
      case atStart => exact ⟨0, by omega, rfl, Lib.hid (fun j h hj => by omega)⟩
      case round =>
        obtain ⟨pos, hpos, rfl, HA⟩ := hrel
        by_cases hp : pos < n
        · have hpl : pos < l.length := by rw [HN.out]; exact hp
          obtain ⟨b, hb⟩ : ∃ b, l[pos] = b := ⟨_, rfl⟩
          have HBY := Lib.hid hb
          by_cases hasc : b.toNat < 128
          · have hnx := nx_ascii w l pos hpl b hb hasc
            have HNo := Lib.hid (fun (hq : ¬ (32 ≤ b.toNat ∧ b.toNat ≤ 126)) => show v = false by rw [E.out]; exact asc_no hpl (by rw [HBY.out]; exact hq))
            have HYes := Lib.hid (fun (hq : 32 ≤ b.toNat ∧ b.toNat ≤ 126) => show ∀ j (h : j < l.length), j < pos + 1 → 32 ≤ (l[j]).toNat ∧ (l[j]).toNat ≤ 126 from fun j h hj => by
              by_cases e : j = pos
              · subst e; rw [HBY.out]; exact hq
              · exact HA.out j h (by omega))
            obtain ⟨x, hx⟩ : ∃ x, b.toNat = x := ⟨_, rfl⟩
            rw [hx] at hnx HNo HYes hasc
            clear hb hx HBY
            by_cases d1 : (x : Int) < 32
            · have EF := Lib.hid (HNo.out (by omega))
              go_wp2
              go_ret
              exact ⟨rb EF.out rfl, below_iter _ _ _⟩
            · by_cases d2 : (126 : Int) < (x : Int)
              · have EF := Lib.hid (HNo.out (by omega))
                go_wp2
                go_ret
                exact ⟨rb EF.out rfl, below_iter _ _ _⟩
              · have HA2 := Lib.hid (HYes.out (by omega))
                go_wp2
                go_roundw
                case rel => exact ⟨pos + 1, by omega, rfl, HA2⟩
                case measure => simp; omega
          · obtain ⟨r, k, hr, hnx⟩ := nx_high w l pos hpl (by rw [hb]; omega)
            have EF := Lib.hid (show v = false by rw [E.out]; exact asc_no hpl (by rw [hb]; omega))
            have d1 : ¬ (r : Int) < 32 := by omega
            have d2 : (126 : Int) < (r : Int) := by omega
            clear hb HBY
            go_wp2
            go_ret
            exact ⟨rb EF.out rfl, below_iter _ _ _⟩
        · have hnx := nx_end w l pos (by rw [HN.out]; exact hp)
          have EF := Lib.hid (show v = true by
            rw [E.out]
            exact (asc_iff l).2 fun j hj => HA.out j hj (by have := HN.out; omega))
          go_wp2
          go_ret
          exact ⟨rb EF.out rfl, below_iter _ _ _⟩
end Ln
end Go.Proofs.YtbebojahjfnkiaaDoor
