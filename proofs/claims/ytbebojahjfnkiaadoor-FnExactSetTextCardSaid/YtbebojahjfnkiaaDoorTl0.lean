/- Lists of texts: compared, marked, and the marks found again. -/
import Derived.Test.YtbebojahjfnkiaaDoorTg0
import Derived.Deep.RegionHeld3
import Derived.Laws.BytesArg
import Derived.Outline
namespace Go.Proofs.YtbebojahjfnkiaaDoor
open Go.RowKit Go.Joins Go.Deep Go.ChangeShapes Go.WideShapes Go.Lib
set_option linter.unusedVariables false
set_option linter.unusedSimpArgs false
namespace Ln
theorem strs_len (ps : List (List UInt8)) : (strs ps).length = ps.length := by simp [strs]
theorem str_n {W : World} {base n : Nat} {v : Value} {ps : List (List UInt8)} (h : W.ownsRow base 9 1 v n (strs ps)) : ps.length = n := by have := h.1; simpa [strs] using this
theorem tl_self (b : ByteArray) : (b.toList == b.toList) = true := by simp
theorem tl_self2 (b : ByteArray) : (b.toList != b.toList) = false := by simp
set_option maxRecDepth 100000 in
set_option maxHeartbeats 1000000 in
theorem eqStringS_any {b1 b2 n : Nat} {v v' : Value} {ps : List (List UInt8)} {w : World} (h : w.ownsRow b1 9 1 v n (strs ps)) (h' : w.ownsRow b2 9 1 v' n (strs ps)) (hl : n ≤ 1048576) :
    Calls Tryd.prog 6 #[v, v'] w (Ret (.bool true) w) := by
  have HO := Lib.hid h
  have HO' := Lib.hid h'
  have HN := Lib.hid (str_n h)
  obtain ⟨a, cp, rfl⟩ : ∃ a cap, v = .slice a n cap := by rcases str_forms h with ⟨rfl, rfl⟩ | ⟨g, cap, rfl⟩ <;> exact ⟨_, _, rfl⟩
  obtain ⟨a', cp', rfl⟩ : ∃ a cap, v' = .slice a n cap := by rcases str_forms h' with ⟨rfl, rfl⟩ | ⟨g, cap, rfl⟩ <;> exact ⟨_, _, rfl⟩
  clear h h'
  go_enter Tryd.func6, Tryd.ntmps6
  go_wp2
  go_loopw [5] (fun i wr => ∃ k : Nat, k ≤ n ∧ i = .int .i64 (k : Int) ∧ Below w.heap.size w wr) (fun i _ => ((n : Int) - RowKit.intOf i).toNat)
  case atStart => exact ⟨0, by omega, rfl, Below.refl _ _⟩
  case round =>
    obtain ⟨k, hk, rfl, hb⟩ := hrel
    by_cases hlt : (k : Int) < (n : Int)
    · obtain ⟨g, rfl⟩ : ∃ g, a = some ⟨g, 0, none⟩ := by
        rcases str_forms HO.out with ⟨_, h0⟩ | ⟨g, cap, h1⟩
        · omega
        · injection h1 with h1; exact ⟨g, h1⟩
      obtain ⟨g', rfl⟩ : ∃ g, a' = some ⟨g, 0, none⟩ := by
        rcases str_forms HO'.out with ⟨_, h0⟩ | ⟨g, cap, h1⟩
        · omega
        · injection h1 with h1; exact ⟨g, h1⟩
      obtain ⟨p, HPK, hc⟩ := str_at (Li.own_on HO.out hb) (k := k) (by omega)
      obtain ⟨p', HPK', hc'⟩ := str_at (Li.own_on HO'.out hb) (k := k) (by omega)
      have hpp : p' = p := by have := HPK.out.symm.trans HPK'.out; injection this with this; exact this.symm
      rw [hpp] at hc'
      obtain ⟨B, hB⟩ : ∃ B, (⟨p.toArray⟩ : ByteArray) = B := ⟨_, rfl⟩
      rw [hB] at hc hc'
      have t1 := tl_self B
      have t2 := tl_self2 B
      clear hB hpp
      go_wp2
      go_quiet (fail)
      go_wp2
      go_roundw
      case rel => exact ⟨k + 1, by omega, by go_num, Li.below_draws hb _⟩
      case measure => simp [RowKit.intOf] <;> omega
    · go_wp2
      go_ret
      exact ⟨rfl, hb⟩
theorem mk_append' (a b : List UInt8) : (⟨a.toArray⟩ : ByteArray) ++ ⟨b.toArray⟩ = ⟨(a ++ b).toArray⟩ := by
  apply ByteArray.ext
  simp [ByteArray.data_append]
/-! a mark in letters -/
def digit (n : Nat) : UInt8 := UInt8.ofNat (48 + n)
def dec2 (q : Nat) : List UInt8 := if q = 0 then [] else if q < 10 then [digit q] else [digit (q / 10), digit (q % 10)]
/-- the text of mark k, 1 to 99 -/
def mt (k : Nat) : List UInt8 := 109 :: dec2 k
theorem dec2_step {q : Nat} (h : 0 < q) (h2 : q < 100) : dec2 q = dec2 (q / 10) ++ [digit (q % 10)] := by
  unfold dec2
  rw [if_neg (by omega)]
  by_cases c : q < 10
  · rw [if_pos c, if_pos (by omega), Nat.mod_eq_of_lt c]; rfl
  · rw [if_neg c, if_neg (by omega), if_pos (by omega)]; rfl
theorem dec2_len (q : Nat) : (dec2 q).length ≤ 2 := by
  unfold dec2
  split
  · simp
  · split <;> simp
theorem cvt (W : World) (b m : Nat) (x : Int) (hx : x = 48 + (m : Int)) (h : W.cell? ⟨b, 0, none⟩ = some (.int .u8 x)) : (convert 52 9 (.slice (some ⟨b, 0, none⟩) 1 1)).run Tryd.prog W = .ok (.string ⟨[digit m].toArray⟩) W := by
  have e : strOfNums [x] = ⟨[digit m].toArray⟩ := by
    subst hx
    unfold strOfNums digit
    congr 3
  rw [← e]
  exact run_convert_bytes_arg W 52 5 Tryd.underlying52 Tryd.underlying5 b 0 1 1 [x] rfl (fun i hi => by
    obtain rfl : i = 0 := by omega
    exact h) 9 Tryd.underlying9
set_option maxRecDepth 100000 in
set_option maxHeartbeats 2000000 in
theorem markText_any (k : Nat) (h1 : 1 ≤ k) (h2 : k ≤ 99) (w : World) :
    Calls Tryd.prog 19 #[.int .i64 (k : Int)] w (Ret (.string ⟨(mt k).toArray⟩) w) := by
  have HF := Lib.hid (show ∀ out, dec2 k = dec2 0 ++ out → (⟨#[109]⟩ : ByteArray) ++ ⟨out.toArray⟩ = ⟨(mt k).toArray⟩ from fun out h => by
    rw [show (⟨#[109]⟩ : ByteArray) = ⟨[109].toArray⟩ from rfl, mk_append']
    unfold mt
    rw [h]
    rfl)
  have hdl := dec2_len k
  have HDL := Lib.hid hdl
  have t0 : decide ((k : Int) ≤ 0) = false := by simp; omega
  clear hdl
  go_enter Tryd.func19, Tryd.ntmps19
  go_wp2
  go_loopw [0, 3] (fun x s wr => ∃ (q : Nat) (out : List UInt8), q ≤ 99 ∧ x = .int .i64 (q : Int) ∧ s = .string ⟨out.toArray⟩ ∧ Hid (dec2 k = dec2 q ++ out) ∧ Below w.heap.size w wr) (fun x _ _ => (RowKit.intOf x).toNat)
  case atStart => exact ⟨k, [], h2, rfl, rfl, Lib.hid (by simp), Below.refl _ _⟩
  case round =>
    obtain ⟨q, out, hq, rfl, rfl, HQ, hb⟩ := hrel
    have hol : out.length ≤ 2 := by
      have := congrArg List.length HQ.out
      rw [List.length_append] at this
      have := HDL.out
      omega
    have hos := ba_size out
    by_cases hq0 : 0 < q
    · have hq1 : (0 : Int) < (q : Int) := by omega
      have c1 := cvt (wr.alloc (.cells #[.int .u8 (48 + ((q % 10 : Nat) : Int))] 5)) wr.heap.size (q % 10) (48 + ((q % 10 : Nat) : Int)) rfl (World.cell?_alloc_mark _ _ _ _ _)
      have HN := Lib.hid (show dec2 k = dec2 (q / 10) ++ (digit (q % 10) :: out) by rw [HQ.out, dec2_step hq0 (by omega)]; simp)
      have HA := Lib.hid (show (⟨[digit (q % 10)].toArray⟩ : ByteArray) ++ ⟨out.toArray⟩ = ⟨(digit (q % 10) :: out).toArray⟩ by rw [mk_append']; rfl)
      have e1 : (q : Int).tmod 10 = ((q % 10 : Nat) : Int) := by rw [Int.tmod_eq_emod_of_nonneg (by omega)]; omega
      have e2 : (q : Int).tdiv 10 = ((q / 10 : Nat) : Int) := by rw [Int.tdiv_eq_ediv_of_nonneg (by omega)]; omega
      have e3 : (q : Int) % 10 = ((q % 10 : Nat) : Int) := by omega
      have e4 : (q : Int) / 10 = ((q / 10 : Nat) : Int) := by omega
      obtain ⟨r, hr⟩ : ∃ r, q % 10 = r := ⟨_, rfl⟩
      obtain ⟨d, hd⟩ : ∃ d, q / 10 = d := ⟨_, rfl⟩
      have hr9 : r ≤ 9 := by omega
      have hdq : d < q := by omega
      rw [hr] at c1 HN HA e1 e3
      rw [hd] at HN e2 e4
      have HBA := Lib.hid (hb.alloc hb.size (.cells #[.int .u8 (48 + (r : Int))] 5))
      have hw8 : IntKind.u8.wrap (48 + (r : Int)) = 48 + (r : Int) := by rw [IntKind.wrap_u8]; omega
      obtain ⟨S1, hS1⟩ : ∃ S, (⟨[digit r].toArray⟩ : ByteArray) = S := ⟨_, rfl⟩
      have hs1 : S1.size = 1 := by rw [← hS1]; rfl
      rw [hS1] at c1 HA
      clear hr hd hS1
      go_wp2
      go_roundw
      case rel => exact ⟨d, digit r :: out, by omega, rfl, by rw [← HA.out], HN, HBA.out⟩
      case measure => simp [RowKit.intOf] <;> omega
    · obtain rfl : q = 0 := by omega
      have HE := Lib.hid (HF.out out HQ.out)
      go_wp2
      go_ret
      exact ⟨by rw [← HE.out]; rfl, hb⟩
/-- the first k marked ahead of what stood there -/
def mks (xs : List Value) (k : Nat) : List Value := (List.range k).map (fun i => Value.string ⟨(mt (i + 1)).toArray⟩) ++ xs.drop k
theorem mks_zero (xs : List Value) : mks xs 0 = xs := by simp [mks]
theorem mks_step (xs : List Value) (k : Nat) (h : k < xs.length) : (mks xs k).set k (.string ⟨(mt (k + 1)).toArray⟩) = mks xs (k + 1) := by
  unfold mks
  have e : ((List.range k).map (fun i => Value.string ⟨(mt (i + 1)).toArray⟩)).length = k := by simp
  rw [List.set_append_right _ _ (by rw [e]; exact Nat.le_refl _), e, Nat.sub_self, List.range_succ, List.map_append, List.drop_eq_getElem_cons h]
  simp only [List.set_cons_zero, List.map_cons, List.map_nil, List.append_assoc, List.cons_append, List.nil_append]
def smarks (n : Nat) : List (List UInt8) := (List.range n).map (fun i => mt (i + 1))
theorem mks_end (xs : List Value) (n : Nat) (h : xs.length = n) : mks xs n = strs (smarks n) := by
  unfold mks strs smarks
  rw [List.drop_of_length_le (by omega), List.map_map, List.append_nil]
  rfl
theorem smarks_at (n k : Nat) (h : k < n) : (smarks n)[k]? = some (mt (k + 1)) := by simp [smarks, h]
set_option maxRecDepth 100000 in
set_option maxHeartbeats 2000000 in
theorem markStringS_any {base n : Nat} {v : Value} {xs : List Value} {w : World} (h : w.ownsRow base 9 1 v n xs) (hl : n ≤ 90) :
    Calls Tryd.prog 7 #[v, .int .i64 1] w fun e w' => e = .returned (.int .i64 ((n : Int) + 1)) ∧ w'.ownsRow base 9 1 v n (strs (smarks n)) ∧ w.grownBy w' v.ownBlock := by
  have hx : xs.length = n := by have := h.1; omega
  have HX := Lib.hid hx
  have hb0 := h.lt
  have H0 := Lib.hid (show w.ownsRow base 9 1 v n (mks xs 0) by rw [mks_zero]; exact h)
  have hf := str_forms h
  obtain ⟨a, cp, rfl⟩ : ∃ a cap, v = .slice a n cap := by rcases hf with ⟨rfl, rfl⟩ | ⟨g, cap, rfl⟩ <;> exact ⟨_, _, rfl⟩
  have HLT := Lib.hid hb0
  have HFO := Lib.hid hf
  clear h hx hb0 hf
  go_enter Tryd.func7, Tryd.ntmps7
  go_wp2
  go_loopw [1, 5] (fun q i wr => ∃ k : Nat, k ≤ n ∧ i = .int .i64 (k : Int) ∧ q = .int .i64 ((k : Int) + 1) ∧ Hid (wr.ownsRow base 9 1 (.slice a n cp) n (mks xs k)) ∧ Hid (w.grownBy wr (Value.ownBlock (.slice a n cp)))) (fun _ i _ => ((n : Int) - RowKit.intOf i).toNat)
  case atStart => exact ⟨0, by omega, rfl, rfl, H0, Lib.hid ⟨rfl, rfl, rfl, Nat.le_refl _, fun _ _ _ => rfl⟩⟩
  case round =>
    obtain ⟨k, hk, rfl, rfl, HO, HG⟩ := hrel
    by_cases hlt : (k : Int) < (n : Int)
    · obtain ⟨g, rfl⟩ : ∃ g, a = some ⟨g, 0, none⟩ := by
        rcases HFO.out with ⟨_, h0⟩ | ⟨g, cap, h1⟩
        · omega
        · injection h1 with h1; exact ⟨g, h1⟩
      have CM := Lib.hid (fun W => show Calls Tryd.prog 19 #[.int .i64 ((k : Int) + 1)] W (Ret (.string ⟨(mt (k + 1)).toArray⟩) W) from markText_any (k + 1) (by omega) (by omega) W)
      have hgw : g < w.heap.size := (HLT.out g rfl).2
      go_wp2_with fail
      refine (CM.out _).mono ?_
      rintro e w4 ⟨rfl, hb4⟩
      have hO4 := Li.own_on HO.out hb4
      obtain ⟨x0, hd⟩ : ∃ x0, w4.cell? ⟨g, k, none⟩ = some x0 := by
        rw [hO4.cellAt k (by omega)]
        exact ⟨_, List.getElem?_eq_getElem (by rw [hO4.1]; omega)⟩
      have hfz := hO4.frozenAt k
      have hst := hO4.stored k (.string ⟨(mt (k + 1)).toArray⟩)
      rw [mks_step xs k (by rw [HX.out]; omega)] at hst
      have HST := Lib.hid hst.1
      have HG4 := Lib.hid (show w.grownBy w4 (some g) from ⟨hb4.os.trans HG.out.os, hb4.tape.trans HG.out.tape, hb4.output.trans HG.out.output, Nat.le_trans HG.out.size hb4.size, fun j hj hr => (hb4.block j (Nat.lt_of_lt_of_le hj HG.out.size)).trans (HG.out.block j hj hr)⟩)
      have HG5 := Lib.hid (show w.grownBy (w4.setCell ⟨g, k, none⟩ (.string ⟨(mt (k + 1)).toArray⟩)) (some g) from
        ⟨hst.2.os.trans HG4.out.os, hst.2.tape.trans HG4.out.tape, hst.2.output.trans HG4.out.output, Nat.le_trans HG4.out.size hst.2.size, fun j hj hr => (hst.2.block j (Nat.lt_of_lt_of_le hj HG4.out.size) hr).trans (HG4.out.block j hj hr)⟩)
      obtain ⟨B, hB⟩ : ∃ B, (⟨(mt (k + 1)).toArray⟩ : ByteArray) = B := ⟨_, rfl⟩
      rw [hB] at HST HG5 ⊢
      clear hst hO4 hb4 hB
      go_wp2
      go_roundw
      case rel => exact ⟨k + 1, by omega, by go_num, by go_num, HST, HG5⟩
      case measure => simp [RowKit.intOf] <;> omega
    · have e : k = n := by omega
      have HE := Lib.hid (show wr.ownsRow base 9 1 (.slice a n cp) n (strs (smarks n)) by
        have h5 := HO.out
        rw [e, mks_end xs n HX.out] at h5
        exact h5)
      have EK := Lib.hid e
      clear e
      go_wp2
      go_ret
      exact ⟨Li.ret_int (by have := EK.out; omega), HE.out, HG.out⟩
set_option maxRecDepth 100000 in
set_option maxHeartbeats 2000000 in
theorem heldStringS_any {base n : Nat} {v : Value} {w : World} (h : w.ownsRow base 9 1 v n (strs (smarks n))) (hl : n ≤ 90) :
    Calls Tryd.prog 8 #[v, .int .i64 1] w fun e w' => e = .returned (.int .i64 ((n : Int) + 1)) ∧ Below w.heap.size w w' := by
  have H0 := Lib.hid h
  have hf := str_forms h
  obtain ⟨a, cp, rfl⟩ : ∃ a cap, v = .slice a n cap := by rcases hf with ⟨rfl, rfl⟩ | ⟨g, cap, rfl⟩ <;> exact ⟨_, _, rfl⟩
  have HFO := Lib.hid hf
  clear h hf
  go_enter Tryd.func8, Tryd.ntmps8
  go_wp2
  go_loopw [1, 5] (fun q i wr => ∃ k : Nat, k ≤ n ∧ i = .int .i64 (k : Int) ∧ q = .int .i64 ((k : Int) + 1) ∧ Hid (Below w.heap.size w wr)) (fun _ i _ => ((n : Int) - RowKit.intOf i).toNat)
  case atStart => exact ⟨0, by omega, rfl, rfl, Lib.hid (Below.refl _ _)⟩
  case round =>
    obtain ⟨k, hk, rfl, rfl, HB⟩ := hrel
    by_cases hlt : (k : Int) < (n : Int)
    · obtain ⟨g, rfl⟩ : ∃ g, a = some ⟨g, 0, none⟩ := by
        rcases HFO.out with ⟨_, h0⟩ | ⟨g, cap, h1⟩
        · omega
        · injection h1 with h1; exact ⟨g, h1⟩
      have CM := Lib.hid (fun W => show Calls Tryd.prog 19 #[.int .i64 ((k : Int) + 1)] W (Ret (.string ⟨(mt (k + 1)).toArray⟩) W) from markText_any (k + 1) (by omega) (by omega) W)
      have hOr := Li.own_on H0.out HB.out
      obtain ⟨p, HPK, hc⟩ := str_at hOr (k := k) (by omega)
      have hp : p = mt (k + 1) := by have := HPK.out; rw [smarks_at n k (by omega)] at this; injection this with this; exact this.symm
      rw [hp] at hc
      have hgl : g < wr.heap.size := (hOr.lt g rfl).2
      obtain ⟨B, hB⟩ : ∃ B, (⟨(mt (k + 1)).toArray⟩ : ByteArray) = B := ⟨_, rfl⟩
      rw [hB] at hc CM
      have t1 := tl_self B
      have t2 := tl_self2 B
      clear hB hp hOr
      go_wp2_with fail
      go_region_held3 (fun w' => w'.cell? ⟨g, k, none⟩ = some (.string B))
        (first | exact hc | exact hq | go_keep)
        (first
          | (go_at_call 19; refine (CM.out _).mono ?_; rintro e w4 ⟨rfl, hb4⟩; have hq : w4.cell? ⟨g, k, none⟩ = some (.string B) := (hb4.cell (p := ⟨g, k, none⟩) hgl).trans hc))
      have HB5 := Lib.hid (HB.out.trans (below_le ((Below.refl wr.heap.size wr).drew.trans (below_le hb4 (Nat.le_refl _))) HB.out.size))
      clear hb4 hq
      go_wp2
      go_roundw
      case rel => exact ⟨k + 1, by omega, by go_num, by go_num, HB5⟩
      case measure => simp [RowKit.intOf] <;> omega
    · have e : k = n := by omega
      have EK := Lib.hid e
      clear e
      go_wp2
      go_ret
      exact ⟨Li.ret_int (by have := EK.out; omega), HB.out⟩
end Ln
end Go.Proofs.YtbebojahjfnkiaaDoor
