/- A range's short text, from both sides. -/
import Derived.Test.YtlghonnakokioaaDoorPm
import Derived.Test.YtlghonnakokioaaDoorIa
import Derived.BigQuiet
import Derived.Laws.Strings3
import Derived.Laws.Concat
namespace Go.Proofs.YtlghonnakokioaaDoor
open Go.RowKit Go.Joins Go.Deep Go.ChangeShapes Go.WideShapes
set_option linter.unusedVariables false
set_option linter.unusedSimpArgs false
theorem idx_at (l : List UInt8) (k : Nat) (h : k < l.length) (x : UInt8) (hx : l[k] = x) (W : World) : (Instr.index 9 (.string ⟨l.toArray⟩) (.int .i64 (k : Int))).run Tryd.prog W = .ok (.int .u8 x.toNat) W := by
  subst hx
  have hs : (0 : Int) ≤ (k : Int) ∧ (k : Int) < ((⟨l.toArray⟩ : ByteArray).size : Int) := ⟨by omega, by show (k : Int) < (l.toArray.size : Int); simp; omega⟩
  rw [run_index_string W 9 ⟨l.toArray⟩ .i64 k (by kernel_rfl), dif_pos hs]
  rfl
theorem sl_from (l : List UInt8) (i : Nat) (h : i ≤ l.length) (W : World) :
    (Instr.slice 9 (.string ⟨l.toArray⟩) (some (.int .i64 (i : Int))) none none).run Tryd.prog W = .ok (.string ⟨(l.drop i).toArray⟩) W := by
  have hz : ((⟨l.toArray⟩ : ByteArray).size : Int) = (l.length : Int) := by show (l.toArray.size : Int) = _; simp
  rw [run_slice_string_from_if W 9 ⟨l.toArray⟩ .i64 i (by kernel_rfl), if_pos ⟨by omega, by omega⟩, ByteArray.extract_mk]
  have hz2 : (⟨l.toArray⟩ : ByteArray).size = l.length := by omega
  rw [hz2, Int.toNat_natCast, List.take_of_length_le (by rw [List.length_drop]; exact Nat.le_refl _)]
namespace Sr
open P
/-- how many signs two texts have alike in front -/
def ali : List UInt8 → List UInt8 → Nat
  | x :: xs, y :: ys => if x = y then ali xs ys + 1 else 0
  | _, _ => 0
theorem ali_lt : ∀ (a b : List UInt8), a.length = b.length → a ≠ b → ali a b < a.length
  | [], [], _, h => absurd rfl h
  | [], _ :: _, h, _ => by simp at h
  | _ :: _, [], h, _ => by simp at h
  | x :: xs, y :: ys, h, hn => by
    unfold ali
    by_cases e : x = y
    · rw [if_pos e]
      have := ali_lt xs ys (by simpa using h) (fun e2 => hn (by rw [e, e2]))
      simp only [List.length_cons]
      omega
    · rw [if_neg e]; simp
theorem ali_eq : ∀ (a b : List UInt8) (k : Nat), k < ali a b → a[k]? = b[k]?
  | [], _, k, h => by simp [ali] at h
  | _ :: _, [], k, h => by simp [ali] at h
  | x :: xs, y :: ys, k, h => by
    unfold ali at h
    by_cases e : x = y
    · rw [if_pos e] at h
      cases k with
      | zero => simp [e]
      | succ k => simpa using ali_eq xs ys k (by omega)
    · rw [if_neg e] at h; omega
theorem ali_ne : ∀ (a b : List UInt8), a.length = b.length → a ≠ b → a[ali a b]? ≠ b[ali a b]?
  | [], [], _, h => absurd rfl h
  | [], _ :: _, h, _ => by simp at h
  | _ :: _, [], h, _ => by simp at h
  | x :: xs, y :: ys, h, hn => by
    by_cases e : x = y
    · have := ali_ne xs ys (by simpa using h) (fun e2 => hn (by rw [e, e2]))
      unfold ali
      rw [if_pos e]
      simpa using this
    · unfold ali
      rw [if_neg e]
      simpa using e
/-- what follows - -/
def tail (f t : Nat) : List UInt8 := if (decN f).length = (decN t).length then (decN t).drop (ali (decN f) (decN t)) else decN t
def sh (f t : Nat) : List UInt8 := if f = t then decN f else decN f ++ 45 :: tail f t
theorem decN_inj {f t : Nat} (hf : f ≤ 2000) (ht : t ≤ 2000) (h : decN f = decN t) : f = t := by
  have h1 := rdS_decN f hf
  have h2 := rdS_decN t ht
  rw [h, h2] at h1
  omega
theorem sh_one (f : Nat) : sh f f = decN f := if_pos rfl
theorem sh_two {f t : Nat} (h : f ≠ t) : sh f t = decN f ++ 45 :: tail f t := if_neg h
theorem tail_same {f t : Nat} (h : (decN f).length = (decN t).length) : tail f t = (decN t).drop (ali (decN f) (decN t)) := if_pos h
theorem tail_other {f t : Nat} (h : ¬ (decN f).length = (decN t).length) : tail f t = decN t := if_neg h
theorem numS_eq (n : Nat) : numS n = ⟨(decN n).toArray⟩ := rfl
theorem cat3 (a b : List UInt8) : ((⟨a.toArray⟩ : ByteArray) ++ ⟨#[45]⟩) ++ ⟨b.toArray⟩ = ⟨(a ++ 45 :: b).toArray⟩ := by
  apply ByteArray.ext
  simp
theorem sz (a : List UInt8) : (⟨a.toArray⟩ : ByteArray).size = a.length := by show a.toArray.size = _; simp
theorem ret_s {a b : ByteArray} (h : a = b) : Ending.returned (.string a) = .returned (.string b) := by rw [h]
theorem ret_sb {a b : ByteArray} {v v' : Bool} (h : a = b) (h2 : v = v') : Ending.returned (.tuple #[.string a, .bool v]) = .returned (.tuple #[.string b, .bool v']) := by rw [h, h2]
theorem below_dN {B : Nat} {a w : World} (h : Below B a w) (n : Nat) : Below B a (w.drewN n) := h.trans ⟨rfl, rfl, rfl, Nat.le_refl _, fun _ _ => rfl⟩
set_option maxRecDepth 100000 in
set_option maxHeartbeats 1000000 in
theorem alike_any (a b : List UInt8) (hl : a.length = b.length) (hn : a ≠ b) (h9 : a.length ≤ 9) (w : World) :
    Calls Tryd.prog 36 #[.string ⟨a.toArray⟩, .string ⟨b.toArray⟩] w fun e w' => e = .returned (.int .i64 (ali a b : Nat)) ∧ Below w.heap.size w w' := by
  have H1 := ali_lt a b hl hn
  have HE := Lib.hid (ali_eq a b)
  have HN := Lib.hid (ali_ne a b hl hn)
  clear hn
  obtain ⟨K, hK⟩ : ∃ K, ali a b = K := ⟨_, rfl⟩
  rw [hK] at H1 HE HN ⊢
  clear hK
  go_enter Tryd.func36, Tryd.ntmps36
  go_wp2
  go_loopw [5] (fun i wr => ∃ k : Nat, k ≤ K ∧ i = .int .i64 (k : Int) ∧ Below w.heap.size w wr) (fun i _ => ((K : Int) - intOf i).toNat)
  case atStart => exact ⟨0, by omega, rfl, Below.refl _ _⟩
  case round =>
    obtain ⟨k, hk, rfl, hb⟩ := hrel
    have HB := Lib.hid hb
    clear hb
    obtain ⟨x, hx⟩ : ∃ x, a[k]'(by omega) = x := ⟨_, rfl⟩
    obtain ⟨y, hy⟩ : ∃ y, b[k]'(by omega) = y := ⟨_, rfl⟩
    have r1 := idx_at a k (by omega) x hx
    have r2 := idx_at b k (by omega) y hy
    have HX : a[k]? = some x := by rw [← hx]; exact List.getElem?_eq_getElem _
    have HY : b[k]? = some y := by rw [← hy]; exact List.getElem?_eq_getElem _
    by_cases hlt : k < K
    · have e : x = y := by
        have := HE.out k hlt
        rw [HX, HY] at this
        exact Option.some.inj this
      have q : ((x.toNat : Int) == (y.toNat : Int)) = true := by rw [e]; simp
      clear hx hy HX HY e hl
      go_wp2_with fail
      go_quiet (fail)
      go_wp2
      go_roundw
      case rel => exact ⟨k + 1, by omega, by go_num, below_dN HB.out _⟩
      case measure => simp [intOf]; omega
    · have ek : k = K := by omega
      have e : x ≠ y := fun e => HN.out (by rw [← ek, HX, HY, e])
      have q : ((x.toNat : Int) == (y.toNat : Int)) = false := by
        simp only [beq_eq_false_iff_ne, ne_eq]
        intro h
        exact e (UInt8.toNat_inj.mp (by omega))
      clear hx hy HX HY e hl
      subst ek
      go_wp2_with fail
      go_quiet (fail)
      go_wp2
      go_ret
      exact ⟨rfl, below_dN HB.out _⟩
end Sr
end Go.Proofs.YtlghonnakokioaaDoor
