/- Numbers taken out of a list of the call's own, by the program. -/
import Derived.Test.YtabnjoohojojnaaCf
import Derived.Shelf.Abstract
import Derived.Lib.SliceRun
import Derived.Deep.Upon
namespace Go.Proofs.Ytabnjoohojojnaa
open Go.RowKit Go.Joins Go.Deep Go.ChangeShapes Go.WideShapes
set_option linter.unusedVariables false
set_option linter.unusedSimpArgs false
namespace Ln
def isY (y x : Int) : Bool := decide (x = y) || decide (x = -y)
theorem kpt_eq (y : Int) (l : List Int) : kpt y l = l.filter fun x => !(isY y x) := rfl
theorem from_ltD (go k cp a m c : Nat) (ha : a ≤ k) (hk : k ≤ cp) (hlt : a < cp) (hm : k - a = m) (hc : cp - a = c) (W : World) : (Instr.slice 22 (.slice (some ⟨go, 0, none⟩) k cp) (some (.int .i64 (a : Int))) none none).run Try.prog W = .ok (.slice (some ⟨go, a, none⟩) m c) W := by
  subst hm hc
  rw [run_slice_l W 22 (some ⟨go, 0, none⟩) k cp (by kernel_rfl) .i64 (a : Int) (by omega) (by omega)]
  have e : (sizeOf (Try.prog.elem 22)).run Try.prog W = .ok 1 W := by kernel_rfl
  rw [e]
  simp only [Result.andThen, sliced, Int.toNat_natCast, Nat.mul_one]
  rw [if_neg (by omega)]
  by_cases h : a = 0
  · subst h; simp [Addr.add]
  · simp [Addr.add, h]
theorem to_runD (go k cp a : Nat) (ha : a ≤ cp) (W : World) : (Instr.slice 22 (.slice (some ⟨go, 0, none⟩) k cp) none (some (.int .i64 (a : Int))) none).run Try.prog W = .ok (.slice (some ⟨go, 0, none⟩) a cp) W := by
  rw [run_slice_h W 22 (some ⟨go, 0, none⟩) k cp (by kernel_rfl) .i64 (a : Int) (by omega) (by omega)]
  have e : (sizeOf (Try.prog.elem 22)).run Try.prog W = .ok 1 W := by kernel_rfl
  rw [e]
  simp [Result.andThen, sliced]
  intro _
  simp [Addr.add]
set_option maxRecDepth 100000 in
theorem del1_any (bn : Nat) (x y : Int) (y1 : -8 ≤ y) (y2 : y ≤ 8) (w : World) (hc : w.cell? ⟨bn, 0, none⟩ = some (.int .i64 y)) (v : Bool) (hv : isY y x = v) :
    Calls Try.prog 70 #[.int .i64 x, .pointer (some ⟨bn, 0, none⟩)] w fun e w' => e = .returned (.bool v) ∧ w = w' := by
  by_cases c : x = y
  · have e : v = true := by rw [← hv]; unfold isY; simp [c]
    subst e
    have t1 : (x == y) = true := by simpa using c
    clear hv c
    go_enter Try.func70, Try.ntmps70
    go_wp2
    go_ret
    exact ⟨rfl, rfl⟩
  · have t1 : (x == y) = false := by simpa using c
    have e : v = (x == -y) := by rw [← hv]; unfold isY; simp [c]; rfl
    have HE := Lib.hid e
    clear hv c e
    go_enter Try.func70, Try.ntmps70
    go_wp2
    go_ret
    exact ⟨by rw [HE.out] <;> rfl, rfl⟩
/-- the closure, as a value -/
abbrev delF (bn : Nat) : Value := .func (.func 70) #[] #[.pointer (some ⟨bn, 0, none⟩)]
/-- the first one that is taken out -/
def fst1 (y : Int) (zs : List Int) : Nat := zs.findIdx fun x => isY y x
theorem fst1_eq {y : Int} {zs : List Int} {k : Nat} (hk : k < zs.length) (h : isY y (zs.getD k 0) = true) (h2 : ∀ j, j < k → isY y (zs.getD j 0) = false) : fst1 y zs = k := by
  unfold fst1
  rw [List.findIdx_eq hk]
  constructor
  · simpa [List.getD, List.getElem?_eq_getElem hk] using h
  · intro j hj
    have := h2 j hj
    simpa [List.getD, List.getElem?_eq_getElem (show j < zs.length by omega)] using this
theorem fst1_none {y : Int} {zs : List Int} (h2 : ∀ j, j < zs.length → isY y (zs.getD j 0) = false) : fst1 y zs = zs.length := by
  unfold fst1
  rw [List.findIdx_eq_length]
  intro z hz
  obtain ⟨j, hj, rfl⟩ := List.getElem_of_mem hz
  have := h2 j hj
  simpa [List.getD, List.getElem?_eq_getElem hj] using this
def IPost (y : Int) (zs : List Int) (w : World) (e : Ending) (w' : World) : Prop := (w = w') ∧ ((fst1 y zs < zs.length ∧ e = .returned (.int .i64 (fst1 y zs : Int))) ∨ (fst1 y zs = zs.length ∧ e = .returned (.int .i64 (-1))))
set_option maxRecDepth 100000 in
set_option maxHeartbeats 1000000 in
theorem indexF_any {b1 g len cap bn : Nat} {zs : List Int} {y : Int} {w : World} (y1 : -8 ≤ y) (y2 : y ≤ 8) (h : Ow w b1 g len cap zs) (hl : len ≤ 1048576) (hc : w.cell? ⟨bn, 0, none⟩ = some (.int .i64 y)) :
    Calls Try.prog 84 #[.slice (some ⟨g, 0, none⟩) len cap, delF bn] w (IPost y zs w) := by
  have eg : ∀ args w, (callFunc 70 args).run Try.prog w = .ok (.enter 70 args) w := enters_of Try.func70 (by kernel_rfl) rfl
  have HO := Lib.hid h
  have HL := Lib.hid (ow_len h)
  have HC := Lib.hid hc
  clear h hc
  go_enter Try.func84, Try.ntmps84
  go_wp2
  go_loop [8] (fun i => ∃ k : Nat, k ≤ len ∧ i = .int .i64 (k : Int) ∧ Hid (∀ j, j < k → isY y (zs.getD j 0) = false)) (fun i => ((len : Int) - intOf i).toNat)
  case atStart => exact ⟨0, by omega, rfl, Lib.hid fun j hj => by omega⟩
  case round =>
    obtain ⟨k, hk, rfl, HA⟩ := hrel
    by_cases hlt : (k : Int) < len
    · obtain ⟨z, HZK, hc⟩ := ow_at HO.out (k := k) (by omega)
      obtain ⟨v, hv⟩ : ∃ v, isY y z = v := ⟨_, rfl⟩
      have CD := Lib.hid (del1_any bn z y y1 y2 w HC.out v hv)
      have HVV := Lib.hid hv
      clear hv
      cases v
      · have HS := Lib.hid (show isY y (zs.getD k 0) = false by rw [HZK.out]; exact HVV.out)
        go_wp2_with fail
        refine CD.out.mono ?_
        rintro e w' ⟨rfl, rfl⟩
        go_wp2
        go_round
        case rel => exact ⟨k + 1, by omega, by go_num, Lib.hid fun j hj => by
          by_cases e : j = k
          · subst e; exact HS.out
          · exact HA.out j (by omega)⟩
        case measure => simp [intOf]; omega
      · have HE := Lib.hid (show fst1 y zs = k from fst1_eq (by rw [HL.out]; omega) (by rw [HZK.out]; exact HVV.out) HA.out)
        go_wp2_with fail
        refine CD.out.mono ?_
        rintro e w' ⟨rfl, rfl⟩
        go_wp2
        go_ret
        exact ⟨rfl, _root_.Or.inl ⟨by rw [HE.out, HL.out]; omega, by rw [HE.out] <;> rfl⟩⟩
    · have HE := Lib.hid (show fst1 y zs = zs.length from fst1_none fun j hj => HA.out j (by rw [HL.out] at hj; omega))
      go_wp2
      go_ret
      exact ⟨rfl, _root_.Or.inr ⟨HE.out, rfl⟩⟩
theorem nums_set (L : List Int) (i : Nat) (x : Int) : (Li.nums L).set i (.int .i64 x) = Li.nums (L.set i x) := by simp [Li.nums, List.map_set]
theorem own_setC {base g n cap : Nat} : ∀ (vs xs : List Value) (k : Nat) (w : World), w.ownsRow base 3 1 (.slice (some ⟨g, 0, none⟩) n cap) n xs → (w.setCells g k vs).ownsRow base 3 1 (.slice (some ⟨g, 0, none⟩) n cap) n (setL xs k vs)
  | [], xs, k, w, h => h
  | v :: r, xs, k, w, h => own_setC r (xs.set k v) (k + 1) (w.setCell ⟨g, k, none⟩ v) (h.stored k v).1
/-- what lies in other blocks is as it was -/
def Apt (b : Nat) (w w' : World) : Prop := (∀ B w0, Below B w0 w → B ≤ b → Below B w0 w') ∧ ∀ b', b' ≠ b → w'.heap[b']? = w.heap[b']?
theorem Apt.refl (b : Nat) (w : World) : Apt b w w := ⟨fun _ _ h _ => h, fun _ _ => rfl⟩
theorem Apt.set {b : Nat} {w w' : World} (h : Apt b w w') (j : Nat) (v : Value) : Apt b w (w'.setCell ⟨b, j, none⟩ v) :=
  ⟨fun B w0 hb hB => (h.1 B w0 hb hB).setCell (p := ⟨b, j, none⟩) hB v, fun b' hne => (Below.heap_setCell w' ⟨b, j, none⟩ v b' hne).trans (h.2 b' hne)⟩
theorem Apt.drew {b : Nat} {w w' : World} (h : Apt b w w') (n : Nat) : Apt b w (w'.drewN n) := ⟨fun B w0 hb hB => Li.below_draws (h.1 B w0 hb hB) n, fun b' hne => h.2 b' hne⟩
theorem Apt.sets {b : Nat} {w : World} : ∀ (vs : List Value) (k : Nat) (w' : World), Apt b w w' → Apt b w (w'.setCells b k vs)
  | [], k, w', h => h
  | v :: r, k, w', h => Apt.sets r (k + 1) (w'.setCell ⟨b, k, none⟩ v) (h.set k v)
theorem Apt.cell {b : Nat} {w w' : World} (h : Apt b w w') {b' o : Nat} (hne : b' ≠ b) : w'.cell? ⟨b', o, none⟩ = w.cell? ⟨b', o, none⟩ := World.cell?_of_block (w := w) (h.2 b' hne)
/-- the first ones alone -/
theorem own_cut {W : World} {base g n cap m : Nat} {xs : List Value} (h : W.ownsRow base 3 1 (.slice (some ⟨g, 0, none⟩) n cap) n xs) (hm : m ≤ n) : W.ownsRow base 3 1 (.slice (some ⟨g, 0, none⟩) m cap) m (xs.take m) := by
  obtain ⟨hl, ⟨h0, _⟩ | ⟨g', cap', cur, hv, hbase, hheap, hncap, hcapmax, hsize, htake⟩⟩ := h
  · injection h0 with e; cases e
  · injection hv with e1 e2 e3
    injection e1 with e4
    injection e4 with e5
    subst e5 e3
    refine ⟨by rw [List.length_take]; omega, _root_.Or.inr ⟨g, cap, cur, rfl, hbase, hheap, by omega, hcapmax, hsize, ?_⟩⟩
    rw [← htake, List.take_take]
    congr 1
    omega
theorem kpt_snoc (y : Int) (zs : List Int) (j : Nat) (hj : j < zs.length) : kpt y (zs.take (j + 1)) = if isY y (zs.getD j 0) = true then kpt y (zs.take j) else kpt y (zs.take j) ++ [zs.getD j 0] := by
  have e : zs.take (j + 1) = zs.take j ++ [zs.getD j 0] := by
    rw [List.take_succ_eq_append_getElem hj]
    simp [List.getD, List.getElem?_eq_getElem hj]
  rw [e, kpt_eq, kpt_eq, List.filter_append]
  cases hb : isY y (zs.getD j 0)
  · have e2 : List.filter (fun x => !(isY y x)) [zs.getD j 0] = [zs.getD j 0] := by simp only [List.filter_cons, hb]; rfl
    rw [e2]; rfl
  · have e2 : List.filter (fun x => !(isY y x)) [zs.getD j 0] = [] := by simp only [List.filter_cons, hb]; rfl
    rw [e2]; simp
theorem kpt_self {y : Int} {zs : List Int} {F : Nat} (hF : F ≤ zs.length) (h : ∀ j, j < F → isY y (zs.getD j 0) = false) : kpt y (zs.take F) = zs.take F := by
  rw [kpt_eq, List.filter_eq_self]
  intro x hx
  obtain ⟨j, hj, rfl⟩ := List.getElem_of_mem hx
  rw [List.length_take] at hj
  have := h j (by omega)
  simp only [List.getElem_take]
  simpa [List.getD, List.getElem?_eq_getElem (show j < zs.length by omega)] using this
theorem fst1_lt {y : Int} {zs : List Int} (h : fst1 y zs < zs.length) : isY y (zs.getD (fst1 y zs) 0) = true := by
  unfold fst1 at h ⊢
  have := List.findIdx_getElem (w := h)
  simpa [List.getD, List.getElem?_eq_getElem h] using this
theorem fst1_no {y : Int} {zs : List Int} {j : Nat} (h : j < fst1 y zs) : isY y (zs.getD j 0) = false := by
  have h2 : j < zs.length := Nat.lt_of_lt_of_le h List.findIdx_le_length
  have := List.not_of_lt_findIdx h
  simpa [List.getD, List.getElem?_eq_getElem h2] using this
/-- j have been looked at: ys is what lies there now -/
def DelI (y : Int) (zs ys : List Int) (i j : Nat) : Prop := ys.length = zs.length ∧ i = (kpt y (zs.take j)).length ∧ i + 1 ≤ j ∧ (∀ t, t < i → ys.getD t 0 = (kpt y (zs.take j)).getD t 0) ∧ ∀ t, j ≤ t → ys.getD t 0 = zs.getD t 0
theorem del_start {y : Int} {zs : List Int} (h : fst1 y zs < zs.length) : DelI y zs zs (fst1 y zs) (fst1 y zs + 1) := by
  have e : kpt y (zs.take (fst1 y zs + 1)) = zs.take (fst1 y zs) := by
    rw [kpt_snoc y zs _ h, if_pos (fst1_lt h), kpt_self (by omega) (fun j hj => fst1_no hj)]
  refine ⟨rfl, by rw [e, List.length_take]; omega, Nat.le_refl _, fun t ht => ?_, fun t _ => rfl⟩
  rw [e]
  simp [List.getD, List.getElem?_take, ht]
theorem del_skip {y : Int} {zs ys : List Int} {i j : Nat} (h : DelI y zs ys i j) (hj : j < zs.length) (hv : isY y (zs.getD j 0) = true) : DelI y zs ys i (j + 1) := by
  obtain ⟨a, b, c, d, e⟩ := h
  have e1 : kpt y (zs.take (j + 1)) = kpt y (zs.take j) := by rw [kpt_snoc y zs j hj, if_pos hv]
  exact ⟨a, by rw [e1]; exact b, by omega, by rw [e1]; exact d, fun t ht => e t (by omega)⟩
theorem del_take {y : Int} {zs ys : List Int} {i j : Nat} (h : DelI y zs ys i j) (hj : j < zs.length) (hv : isY y (zs.getD j 0) = false) : DelI y zs (ys.set i (zs.getD j 0)) (i + 1) (j + 1) := by
  obtain ⟨a, b, c, d, e⟩ := h
  have e1 : kpt y (zs.take (j + 1)) = kpt y (zs.take j) ++ [zs.getD j 0] := by rw [kpt_snoc y zs j hj, if_neg (by rw [hv]; simp)]
  refine ⟨by rw [List.length_set]; exact a, by rw [e1, List.length_append, ← b]; rfl, by omega, fun t ht => ?_, fun t ht => ?_⟩
  · rw [e1, getD_set _ _ _ (by omega)]
    by_cases et : t = i
    · rw [if_pos et, et, b]
      simp [List.getD]
    · rw [if_neg et, d t (by omega)]
      simp [List.getD, List.getElem?_append_left (show t < (kpt y (zs.take j)).length by omega)]
  · rw [getD_set _ _ _ (by omega), if_neg (by omega)]
    exact e t (by omega)
theorem del_end {y : Int} {zs ys : List Int} {i : Nat} (h : DelI y zs ys i zs.length) : ys.take i = kpt y zs ∧ i = (kpt y zs).length ∧ i < zs.length := by
  obtain ⟨a, b, c, d, e⟩ := h
  rw [List.take_length] at b d
  refine ⟨ext_getD (by rw [List.length_take]; omega) fun t ht => ?_, b, by omega⟩
  rw [List.length_take] at ht
  rw [← d t (by omega)]
  simp [List.getD, List.getElem?_take, show t < i by omega]
def DPost (y : Int) (zs : List Int) (base g cap : Nat) (w : World) (e : Ending) (w' : World) : Prop := e = .returned (.slice (some ⟨g, 0, none⟩) (kpt y zs).length cap) ∧ Ow w' base g (kpt y zs).length cap (kpt y zs) ∧ Apt g w w'
set_option maxRecDepth 100000 in
set_option maxHeartbeats 4000000 in
theorem delete_any {b1 g len cap bn : Nat} {zs : List Int} {y : Int} {w : World} (y1 : -8 ≤ y) (y2 : y ≤ 8) (h : Ow w b1 g len cap zs) (hl : len ≤ 1048576) (hc : w.cell? ⟨bn, 0, none⟩ = some (.int .i64 y)) (hne : bn ≠ g) :
    Calls Try.prog 69 #[.slice (some ⟨g, 0, none⟩) len cap, delF bn] w (DPost y zs b1 g cap w) := by
  have eg : ∀ args w, (callFunc 70 args).run Try.prog w = .ok (.enter 70 args) w := enters_of Try.func70 (by kernel_rfl) rfl
  have C := Lib.hid (indexF_any y1 y2 h hl hc)
  have HO := Lib.hid h
  have hz := ow_len h
  have HL := Lib.hid hz
  have HC := Lib.hid hc
  have hcp := (ow_cap h).1
  have hcp2 := (ow_cap h).2
  unfold maxLen at hcp2
  clear h hc
  rcases Nat.lt_or_ge (fst1 y zs) zs.length with cF | cF
  · have HD0 := Lib.hid (del_start cF)
    obtain ⟨F, hF⟩ : ∃ F, fst1 y zs = F := ⟨_, rfl⟩
    have C2 := Lib.hid (C.out.mono (R' := fun e w' => e = .returned (.int .i64 (F : Int)) ∧ w = w') fun e w' hh => by
      obtain ⟨hw, ⟨_, he⟩ | ⟨he, _⟩⟩ := hh
      · exact ⟨by rw [he, hF], hw⟩
      · omega)
    rw [hF] at HD0 cF
    have hFl : F < len := by omega
    have t0 : ((F : Int) == -1) = false := by rw [beq_eq_false_iff_ne]; omega
    clear C cF hF hz
    go_enter Try.func69, Try.ntmps69
    go_wp2_with fail
    refine C2.out.mono ?_
    rintro e w' ⟨rfl, rfl⟩
    go_wp2
    go_loopw [5, 6] (fun i j wr => ∃ (I J : Nat) (ys : List Int), J ≤ len ∧ I < J ∧ i = .int .i64 (I : Int) ∧ j = .int .i64 (J : Int) ∧ Hid (DelI y zs ys I J) ∧ Hid (Ow wr b1 g len cap ys) ∧ Hid (Apt g w wr)) (fun _ j _ => ((len : Int) - intOf j).toNat)
    case atStart => exact ⟨F, F + 1, zs, by omega, by omega, rfl, by go_num, HD0, HO, Lib.hid (Apt.refl _ _)⟩
    case round =>
      obtain ⟨I, J, ys, hJ, hIJ, rfl, rfl, HD, HY, HP⟩ := hrel
      by_cases hlt : (J : Int) < len
      · obtain ⟨z, HZK, hc⟩ := ow_at HY.out (k := J) (by omega)
        have HZZ := Lib.hid (show zs.getD J 0 = z by rw [← HD.out.2.2.2.2 J (Nat.le_refl _)]; exact HZK.out)
        obtain ⟨v, hv⟩ : ∃ v, isY y z = v := ⟨_, rfl⟩
        have CD := Lib.hid (del1_any bn z y y1 y2 wr (by rw [HP.out.cell hne]; exact HC.out) v hv)
        have HVV := Lib.hid hv
        have hIl : I < len := by omega
        clear hv
        cases v
        · have HN := Lib.hid (show DelI y zs (ys.set I z) (I + 1) (J + 1) by have := del_take HD.out (by rw [HL.out]; omega) (by rw [HZZ.out]; exact HVV.out); rwa [HZZ.out] at this)
          have hcI := ow_cell HY.out hIl
          obtain ⟨old, hold⟩ : ∃ o, ys.getD I 0 = o := ⟨_, rfl⟩
          rw [hold] at hcI
          have hf := HY.out.frozenAt I
          have hst := (HY.out.stored I (.int .i64 z)).1
          rw [nums_set] at hst
          have HST := Lib.hid hst
          have HP2 := Lib.hid (HP.out.set I (.int .i64 z))
          clear hst hold
          go_wp2_with fail
          refine CD.out.mono ?_
          rintro e w' ⟨rfl, rfl⟩
          go_wp2
          go_roundw
          case rel => exact ⟨I + 1, J + 1, _, by omega, by omega, by go_num, by go_num, HN, HST, HP2⟩
          case measure => simp [intOf]; omega
        · have HN := Lib.hid (show DelI y zs ys I (J + 1) from del_skip HD.out (by rw [HL.out]; omega) (by rw [HZZ.out]; exact HVV.out))
          go_wp2_with fail
          refine CD.out.mono ?_
          rintro e w' ⟨rfl, rfl⟩
          go_wp2
          go_roundw
          case rel => exact ⟨I, J + 1, _, by omega, by omega, rfl, by go_num, HN, HY, HP⟩
          case measure => simp [intOf]; omega
      · have hJl : J = len := by omega
        have HDE := Lib.hid (del_end (by have := HD.out; rw [hJl, ← HL.out] at this; exact this))
        have hIl : I < len := by have := HDE.out.2.2; have := HL.out; omega
        obtain ⟨d, hd⟩ : ∃ d, len - I = d := ⟨_, rfl⟩
        obtain ⟨W8, hW8⟩ : ∃ W8, wr.setCells g I (List.replicate d (Value.int .i64 0)) = W8 := ⟨_, rfl⟩
        have hcl : ∀ ty, (Builtin.clear_ #[22] ty #[.slice (some ⟨g, I, none⟩) d (cap - I)]).run Try.prog wr = .ok (.tuple #[]) W8 := fun ty => by
          rw [← hW8]
          exact Lib.run_clear_slice wr 22 3 ty (.int .i64 0) Try.underlying22 (fun _ => by kernel_rfl) rfl rfl g I d (cap - I) (by omega) (fun j hj => by rw [ow_cell HY.out (show I + j < len by omega)]; rfl) (fun j hj => HY.out.frozenAt (I + j))
        have hfl := fun W => from_ltD g len cap I d (cap - I) (by omega) hcp (by omega) hd rfl W
        have hto := fun W => to_runD g len cap I (by omega) W
        have HOE := Lib.hid (show Ow W8 b1 g (kpt y zs).length cap (kpt y zs) by
          rw [← HDE.out.2.1, ← hW8]
          have h1 := own_cut (own_setC (List.replicate d (Value.int .i64 0)) (Li.nums ys) I wr HY.out) (m := I) (by omega)
          rw [setL_gen _ _ _ (by rw [List.length_replicate, Li.nums_length, ow_len HY.out]; omega)] at h1
          have e1 : ((Li.nums ys).take I ++ List.replicate d (Value.int .i64 0) ++ (Li.nums ys).drop (I + (List.replicate d (Value.int .i64 0)).length)).take I = Li.nums (kpt y zs) := by
            rw [List.append_assoc, List.take_append_of_le_length (by rw [List.length_take, Li.nums_length, ow_len HY.out]; omega), List.take_take, Nat.min_self, ← HDE.out.1]
            simp [Li.nums, List.map_take]
          rw [e1] at h1
          exact h1)
        have HPE := Lib.hid (show Apt g w W8 from hW8 ▸ Apt.sets _ _ _ HP.out)
        have HIE := Lib.hid HDE.out.2.1
        clear hJl hd hW8
        go_wp2
        go_ret
        exact ⟨by rw [← HIE.out] <;> rfl, HOE.out, HPE.out⟩
  · have cF2 : fst1 y zs = zs.length := Nat.le_antisymm List.findIdx_le_length cF
    have C2 := Lib.hid (C.out.mono (R' := fun e w' => e = .returned (.int .i64 (-1)) ∧ w = w') fun e w' hh => by
      obtain ⟨hw, ⟨he, _⟩ | ⟨_, he⟩⟩ := hh
      · omega
      · exact ⟨he, hw⟩)
    have HE := Lib.hid (show kpt y zs = zs by
      have := kpt_self (y := y) (Nat.le_refl zs.length) (fun j hj => fst1_no (by omega))
      rwa [List.take_length] at this)
    clear C cF cF2 hz
    go_enter Try.func69, Try.ntmps69
    go_wp2_with fail
    refine C2.out.mono ?_
    rintro e w' ⟨rfl, rfl⟩
    go_wp2
    go_ret
    refine ⟨?_, ?_, Apt.refl _ _⟩
    · rw [HE.out, HL.out]; rfl
    · rw [HE.out, HL.out]; exact HO.out
end Ln
end Go.Proofs.Ytabnjoohojojnaa
