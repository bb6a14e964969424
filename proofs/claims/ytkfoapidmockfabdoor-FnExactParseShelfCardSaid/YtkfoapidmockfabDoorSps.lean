/- Plain mathematics on a shelf's text. -/
import Derived.Test.YtkfoapidmockfabDoorPm
import Derived.Test.YtkfoapidmockfabDoorItx
namespace Go.Proofs.YtkfoapidmockfabDoor
namespace P
def sjl (zs : List Int) : List UInt8 := Lib.join (wr zs) [44]
def tx (zs : List Int) (c : Int) : List UInt8 := sjl zs ++ 99 :: decN c.toNat
theorem txt_tx (zs : List Int) (c : Int) (h : 1 ≤ zs.length) : Sh.txt zs c = ⟨(tx zs c).toArray⟩ := by
  have e := Jn.join_ps 44 zs zs.length h
  rw [ps_wr, Sh.sj_jn] at e
  apply ByteArray.ext
  apply Array.toList_inj.1
  unfold Sh.txt tx sjl
  rw [e]
  simp [ByteArray.data_append, numS]
theorem sjl_no (zs : List Int) : (99 : UInt8) ∉ sjl zs := join_mem 99 44 (by decide) _ fun q hq => by
  obtain ⟨n, rfl⟩ := wr_mem zs q hq
  exact decN_not n 99 (Or.inr (by decide))
theorem sp_tx (zs : List Int) (c : Int) : sp 99 (tx zs c) = [sjl zs, decN c.toNat] := by
  unfold tx
  rw [sp_hit 99 _ _ (sjl_no zs), sp_miss 99 _ (decN_not _ 99 (Or.inr (by decide)))]
theorem cut_tx (zs : List Int) (c : Int) : Lib.cut (tx zs c) [99] = (sjl zs, decN c.toNat, true) := cut_hit 99 _ _ (sjl_no zs)
theorem sp_sjl (zs : List Int) (h : 1 ≤ zs.length) : sp 44 (sjl zs) = wr zs := by
  unfold sjl
  cases e : wr zs with
  | nil => have := congrArg List.length e; simp [wr] at this; rw [this] at h; simp at h
  | cons p r =>
    refine sp_join 44 r p fun q hq => ?_
    rw [← e] at hq
    obtain ⟨n, rfl⟩ := wr_mem zs q hq
    exact decN_not n 44 (Or.inl (by decide))
theorem wr_backS (zs : List Int) (c : Int) (h : Sh.Ok zs c) : (wr zs).map rdS = zs := by
  unfold wr
  rw [List.map_map]
  apply List.ext_getElem
  · simp
  · intro k h1 h2
    have hz := h.2.2.1 k h2
    have e : zs.getD k 0 = zs[k] := by simp [List.getD, h2]
    rw [e] at hz
    simp only [List.getElem_map, Function.comp]
    rw [rdS_decN _ (by omega)]
    omega
theorem c_back (zs : List Int) (c : Int) (h : Sh.Ok zs c) : rdS (decN c.toNat) = c := by
  have h1 := h.2.2.2
  rw [rdS_decN _ (by omega)]
  omega
theorem tx_len (zs : List Int) (c : Int) (h : Sh.Ok zs c) : (tx zs c).length ≤ 34 := by
  have h1 := h.2.2.2
  have hc := (decN_short c.toNat (by omega)).2.2 (by omega)
  have hw : ∀ q ∈ wr zs, q.length ≤ 3 := fun q hq => by
    obtain ⟨z, hz, rfl⟩ := List.mem_map.1 hq
    obtain ⟨k, hk, rfl⟩ := List.getElem_of_mem hz
    have hz := h.2.2.1 k hk
    have e : zs.getD k 0 = zs[k] := by simp [List.getD, hk]
    rw [e] at hz
    exact (decN_short _ (by omega)).2.1 (by omega)
  have hn : (wr zs).length = zs.length := by simp [wr]
  have h8 := h.2.1
  have hj : (sjl zs).length ≤ 31 := by
    unfold sjl
    cases e : wr zs with
    | nil => simp [Lib.join_nil]
    | cons p r =>
      rw [Lib.join_cons, List.length_append]
      rw [e] at hw hn
      have a := hw p (by simp)
      have b := tail_len3 r (fun q hq => hw q (by simp [hq]))
      simp at hn
      omega
  unfold tx
  simp only [List.length_append, List.length_cons]
  omega
theorem val_app (q : List UInt8) (d : UInt8) : val (q ++ [d]) = 10 * val q + ((d.toNat : Int) - 48) := by simp [val, List.foldl_append]
theorem digit_of (d : UInt8) (h : isD d = true) : digit (d.toNat - 48) = d := by
  unfold isD at h
  simp at h
  apply UInt8.toNat_inj.1
  rw [digit_val _ (by omega)]
  omega
/-- digits without a needless zero are the number that they spell -/
theorem dec_of (p : List UInt8) : p ≠ [] → p.all isD = true → ¬ (p.headD 0 = 48 ∧ 1 < p.length) → 0 ≤ val p ∧ decN (val p).toNat = p ∧ (p.headD 0 ≠ 48 → 1 ≤ val p) := by
  induction hn : p.length generalizing p with
  | zero => intro h; exact absurd (List.length_eq_zero_iff.1 hn) h
  | succ n ih =>
    intro h0 hd hz
    rcases List.eq_nil_or_concat p with h | ⟨q, d, h⟩
    · exact absurd h h0
    · rw [List.concat_eq_append] at h
      subst h
      rw [List.all_append, Bool.and_eq_true] at hd
      have hdd : isD d = true := by simpa using hd.2
      have hdr : 48 ≤ d.toNat ∧ d.toNat ≤ 57 := by simpa [isD] using hdd
      by_cases hq : q = []
      · subst hq
        have e : val ([] ++ [d]) = (d.toNat : Int) - 48 := by simp [val]
        rw [e]
        refine ⟨by omega, ?_, fun hh => ?_⟩
        · rw [decN_small (by omega)]
          have : ((d.toNat : Int) - 48).toNat = d.toNat - 48 := by omega
          rw [this, digit_of d hdd]; rfl
        · have : d ≠ 48 := by simpa using hh
          have h2 : d.toNat ≠ 48 := fun e => this (UInt8.toNat_inj.1 e)
          omega
      · have hh : (q ++ [d]).headD 0 = q.headD 0 := by cases q with | nil => exact absurd rfl hq | cons a r => rfl
        have hl : 1 < (q ++ [d]).length := by
          have := List.length_pos_iff.2 hq
          simp; omega
        have hz1 : q.headD 0 ≠ 48 := fun e => hz ⟨by rw [hh]; exact e, by rw [← hn]; exact hl⟩
        obtain ⟨a1, a2, a3⟩ := ih q (by simp at hn; exact hn) hq hd.1 (fun e => hz1 e.1)
        have a4 := a3 hz1
        rw [val_app]
        refine ⟨by omega, ?_, fun _ => by omega⟩
        have e1 : (10 * val q + ((d.toNat : Int) - 48)).toNat / 10 = (val q).toNat := by omega
        have e2 : (10 * val q + ((d.toNat : Int) - 48)).toNat % 10 = d.toNat - 48 := by omega
        rw [decN_great (by omega), e1, e2, a2, digit_of d hdd]
theorem rdS_inv (p : List UInt8) (h : 0 ≤ rdS p) : decN (rdS p).toNat = p := by
  unfold rdS at *
  split at h
  · rename_i hh
    rw [if_pos hh]
    exact (dec_of p (fun e => by rw [e] at hh; simp at hh) hh.2.2.2 hh.2.2.1).2.1
  · omega
theorem join_sp (c : UInt8) (l : List UInt8) : Lib.join (sp c l) [c] = l := by
  rcases cases_of c l with h | ⟨a, r, rfl, h⟩
  · rw [sp_miss c l h, Lib.join_one]
  · rw [sp_hit c a r h]
    have hr := join_sp c r
    cases e : sp c r with
    | nil => have := sp_pos c r; rw [e] at this; simp at this
    | cons p ps =>
      rw [Lib.join_cons]
      rw [e, Lib.join_cons] at hr
      simp only [Lib.joinTail, List.map_cons, List.flatten_cons] at *
      rw [← hr]
      simp
termination_by l.length
decreasing_by
  subst_vars
  simp
  omega
/-- what is read is the text of what was read -/
theorem read_only (l x y : List UInt8) (h2 : sp 99 l = [x, y]) (hg : Sh.Ok ((sp 44 x).map rdS) (rdS y)) : l = tx ((sp 44 x).map rdS) (rdS y) := by
  have e := join_sp 99 l
  rw [h2, Lib.join_cons] at e
  have hw : wr ((sp 44 x).map rdS) = sp 44 x := by
    unfold wr
    rw [List.map_map]
    apply List.ext_getElem
    · simp
    · intro k h1 hk
      have hz := hg.2.2.1 k (by simpa using hk)
      have e2 : ((sp 44 x).map rdS).getD k 0 = rdS (sp 44 x)[k] := by simp [List.getD, hk]
      rw [e2] at hz
      simp only [List.getElem_map, Function.comp]
      exact rdS_inv _ (by omega)
  unfold tx sjl
  rw [hw, join_sp, rdS_inv y hg.2.2.2.1, ← e]
  simp [Lib.joinTail]
end P
end Go.Proofs.YtkfoapidmockfabDoor
