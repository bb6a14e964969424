/- A text with its blanks stretched: mathematics, and the program. -/
import Derived.Test.YtbebojahjfnkiaaTi0
import Derived.Laws.Runes
namespace Go.Proofs.Ytbebojahjfnkiaa
open Go.RowKit Go.Joins Go.Deep Go.ChangeShapes Go.WideShapes Go.Lib
set_option linter.unusedVariables false
set_option linter.unusedSimpArgs false
namespace Ln
theorem enc_ascii (b : UInt8) (h : b.toNat < 128) : Utf8.encode ((b.toNat : Nat) : Int) = ⟨[b].toArray⟩ := by
  have hv : Utf8.valid ((b.toNat : Nat) : Int) = true := by simp [Utf8.valid]; omega
  unfold Utf8.encode
  simp only [hv, if_true, Int.toNat_natCast]
  rw [if_pos (by omega)]
  simp
/-- the blanks of a text, stretched to so many each -/
def st : List UInt8 → List Int → List UInt8
  | [], _ => []
  | b :: l, ss => if b = 32 then bl (ss.headD 0).toNat ++ st l ss.tail else b :: st l ss
def blk (l : List UInt8) : Nat := l.count 32
theorem st_at (l : List UInt8) (k : Nat) (h : k < l.length) (ss : List Int) : st (l.drop k) ss = if l[k] = 32 then bl (ss.headD 0).toNat ++ st (l.drop (k + 1)) ss.tail else l[k] :: st (l.drop (k + 1)) ss := by
  rw [List.drop_eq_getElem_cons h, st]
theorem blk_at (l : List UInt8) (k : Nat) (h : k < l.length) : blk (l.drop k) = (if l[k] = 32 then 1 else 0) + blk (l.drop (k + 1)) := by
  unfold blk
  rw [List.drop_eq_getElem_cons h, List.count_cons]
  by_cases e : l[k] = 32
  · rw [if_pos e, if_pos (by simp [e])]; omega
  · rw [if_neg e, if_neg (by simpa using e)]; omega
theorem sp_blk (l : List UInt8) : (sp 32 l).length = blk l + 1 := by
  induction l with
  | nil => rfl
  | cons b l ih =>
    unfold blk at *
    rw [List.count_cons]
    by_cases e : b = 32
    · subst e
      rw [sp, if_pos rfl, if_pos (by simp), List.length_cons, ih]
    · rw [sp, if_neg e, if_neg (by simpa using e), List.length_cons, List.length_tail, ih]
      omega
theorem lens_blk (l : List UInt8) : (lens l).length = blk l + 1 := by unfold lens; rw [List.length_map]; exact sp_blk l
theorem psum_take (zs : List Int) : ∀ k, k ≤ zs.length → psum zs k = lsum (zs.take k) := by
  intro k
  induction k with
  | zero => intro _; rfl
  | succ k ih =>
    intro hk
    rw [psum_step, lsum_take_step zs k (by omega), ih (by omega)]
theorem lens_sum (l : List UInt8) : lsum (lens l) + ((lens l).length : Int) = (l.length : Int) + 1 := by
  induction l with
  | nil => rw [lens_nil]; rfl
  | cons b l ih =>
    by_cases e : b = 32
    · subst e
      rw [lens_hit, lsum, List.length_cons, List.length_cons]
      omega
    · rw [lens_miss b l e]
      cases h : lens l with
      | nil => exact absurd h (lens_ne l)
      | cons x xs =>
        rw [h] at ih
        simp only [List.headD_cons, List.tail_cons, lsum, List.length_cons] at *
        omega
theorem need_text (l : List UInt8) : need (lens l) 0 (lens l).length = (l.length : Int) := by
  unfold need
  rw [psum_take _ _ (Nat.le_refl _), List.take_length, show psum (lens l) 0 = 0 from rfl]
  have := lens_sum l
  omega
theorem sht_el : ∀ (k : Nat) (left : Int), 0 ≤ left → left ≤ 1000 → ∀ x ∈ sht left k, 0 ≤ x ∧ x ≤ left := by
  intro k
  induction k with
  | zero => intro left _ _ x hx; cases hx
  | succ k ih =>
    intro left h1 h2 x hx
    have hb := sht_bd left (k + 1) h1 h2 (by omega)
    unfold sht at hx
    rcases List.mem_cons.1 hx with rfl | hx
    · exact hb
    · have := ih _ (by omega) (by omega) x hx
      omega
def stB (l : List UInt8) (wide : Int) : Bool := wtB l && ssB (lens l) wide
def stT (l : List UInt8) (wide : Int) : ByteArray := if stB l wide = true then ⟨(st l (ssZ (lens l) wide)).toArray⟩ else ⟨#[]⟩
theorem st_no {l : List UInt8} {wide : Int} (h : stB l wide = false) : stT l wide = ⟨#[]⟩ := by unfold stT; rw [h]; rfl
/-! nothing in no words -/
theorem areNumbers0 (a : Option Addr) (cap : Nat) (many most : Int) (w : World) :
    Calls Try.prog 33 #[.slice a 0 cap, .int .i64 many, .int .i64 most] w fun e w' => e = .returned (.bool false) ∧ w = w' := by
  go_enter Try.func33, Try.ntmps33
  go_wp2
  go_ret
  exact ⟨rfl, rfl⟩
theorem areWords0 (a : Option Addr) (cap : Nat) (w : World) :
    Calls Try.prog 21 #[.slice a 0 cap] w fun e w' => e = .returned (.bool false) ∧ w = w' := by
  have C := Lib.hid (fun W => areNumbers0 a cap 30 80 W)
  go_enter Try.func21, Try.ntmps21
  go_wp2_with fail
  refine (C.out _).mono ?_
  rintro e w' ⟨rfl, rfl⟩
  go_wp2
  go_ret
  exact ⟨rfl, rfl⟩
theorem iStretch0 (a : Option Addr) (cap : Nat) (wide : Int) (w : World) :
    Calls Try.prog 24 #[.slice a 0 cap, .int .i64 wide] w (Gives false [] w) := by
  have C := Lib.hid (fun W => areWords0 a cap W)
  go_enter Try.func24, Try.ntmps24
  go_wp2_with fail
  refine (C.out _).mono ?_
  rintro e w' ⟨rfl, rfl⟩
  go_wp2
  go_ret2
  exact ⟨_, rfl, World.ownsRow_nil _ _ _ _, Below.refl _ _⟩
set_option maxRecDepth 100000 in
set_option maxHeartbeats 4000000 in
theorem iStretchText (l : List UInt8) (wide : Int) (hl : l.length ≤ 1048576) (w : World) :
    Calls Try.prog 12 #[.string ⟨l.toArray⟩, .int .i64 wide] w (Ret (.tuple #[.string (stT l wide), .bool (stB l wide)]) w) := by
  have C1 := Lib.hid (fun W => iWords l hl W)
  obtain ⟨x1, hx1⟩ : ∃ x, wtB l = x := ⟨_, rfl⟩
  obtain ⟨T, hT⟩ : ∃ T, stT l wide = T := ⟨_, rfl⟩
  obtain ⟨v, hv⟩ : ∃ v, stB l wide = v := ⟨_, rfl⟩
  rw [hT, hv]
  cases x1
  · have hf : v = false := by rw [← hv]; unfold stB; rw [hx1]; rfl
    subst hf
    have HT := Lib.hid (show (⟨#[]⟩ : ByteArray) = T by rw [← hT, st_no hv])
    rw [hx1, show wtZ l = [] by unfold wtZ; rw [hx1]; rfl] at C1
    have C2 := Lib.hid (fun a cap W => iStretch0 a cap wide W)
    clear hx1 hv hT
    go_enter Try.func12, Try.ntmps12
    go_wp2_with fail
    refine (C1.out _).mono ?_
    rintro e w1 ⟨v, rfl, ho, hb⟩
    obtain ⟨a, cp, rfl⟩ := own_val ho
    clear ho
    go_wp2_with fail
    refine (C2.out _ _ _).mono ?_
    rintro e w2 ⟨v, rfl, ho, hb2⟩
    have HB2 := Lib.hid (hb.trans (below_le hb2 hb.size))
    clear ho hb hb2
    go_wp2
    go_ret2
    exact ⟨rsb HT.out rfl, HB2.out⟩
  · have hwt : txtB l = true ∧ good (lens l) = true := by unfold wtB at hx1; rw [Bool.and_eq_true] at hx1; exact hx1
    have htx := txt_len hwt.1
    have hok := (good_iff _).1 hwt.2
    rw [hx1, show wtZ l = lens l by unfold wtZ; rw [hx1]; rfl] at C1
    have C2 := Lib.hid (fun (W : World) base g cp (h : Ow W base g (lens l).length cp (lens l)) => iStretch (wide := wide) h (by have := hok.2.1; omega))
    obtain ⟨x2, hx2⟩ : ∃ x, ssB (lens l) wide = x := ⟨_, rfl⟩
    have hvx : v = x2 := by rw [← hv]; unfold stB; rw [hx1, hx2]; rfl
    subst hvx
    rw [hx2] at C2
    have hl1 : 1 ≤ (lens l).length := hok.1
    cases v
    · have HT := Lib.hid (show (⟨#[]⟩ : ByteArray) = T by rw [← hT, st_no hv])
      have hz := ss_no hx2
      rw [hz] at C2
      obtain ⟨Z, hZ⟩ : ∃ Z, lens l = Z := ⟨_, rfl⟩
      rw [hZ] at C1 C2 hl1
      clear hx1 hv hT hx2 hwt htx hok hz hZ
      go_enter Try.func12, Try.ntmps12
      go_wp2_with fail
      refine (C1.out _).mono ?_
      rintro e w1 ⟨v, rfl, ho, hb⟩
      obtain ⟨gq, cp, rfl⟩ := own_pos ho hl1
      have CC := Lib.hid (C2.out _ _ _ _ ho)
      clear ho
      go_wp2_with fail
      refine CC.out.mono ?_
      rintro e w2 ⟨v, rfl, ho, hb2⟩
      have HB2 := Lib.hid (hb.trans (below_le hb2 hb.size))
      clear ho hb hb2
      go_wp2
      go_ret2
      exact ⟨rsb HT.out rfl, HB2.out⟩
    · have HT := Lib.hid (show (⟨(st l (ssZ (lens l) wide)).toArray⟩ : ByteArray) = T by rw [← hT]; unfold stT; rw [hv]; rfl)
      have hssb := hx2
      unfold ssB at hssb
      rw [Bool.and_eq_true, Bool.and_eq_true, decide_eq_true_eq, Bool.not_eq_true', decide_eq_false_iff_not] at hssb
      have hw80 := wide80 hssb.1.1
      have hnb := hssb.2
      rw [need_text] at hnb
      have hzl : (ssZ (lens l) wide).length = blk l := by unfold ssZ; rw [hx2, if_pos rfl, sht_len, lens_blk]; omega
      have hel : ∀ x ∈ ssZ (lens l) wide, 0 ≤ x ∧ x ≤ 120 := by
        unfold ssZ
        rw [hx2, if_pos rfl, need_text]
        intro x hx
        have hb30 := hok.2.1
        have := sht_el _ _ (by omega) (by omega) x hx
        omega
      have hm1 : 1 ≤ blk l := by have h1 := hssb.1.2; rw [lens_blk] at h1; omega
      obtain ⟨Z, hZ⟩ : ∃ Z, lens l = Z := ⟨_, rfl⟩
      rw [hZ] at C1 C2 hl1 HT hzl hel
      obtain ⟨ss, hss⟩ : ∃ ss, ssZ Z wide = ss := ⟨_, rfl⟩
      rw [hss] at C2 HT hzl hel
      have HZL := Lib.hid hzl
      obtain ⟨m, hm⟩ : ∃ m, blk l = m := ⟨_, rfl⟩
      have HM := Lib.hid hm
      rw [hm] at hzl hm1
      unfold Gives at C2
      rw [hzl] at C2
      have HEL := Lib.hid hel
      have HSL := Lib.hid hzl
      obtain ⟨n, hn⟩ : ∃ n, l.length = n := ⟨_, rfl⟩
      have HN := Lib.hid hn
      have HA := Lib.hid htx.2.2
      have hn200 : n ≤ 200 := by rw [← hn]; exact htx.2.1
      have HR := Lib.hid (fun (k : Nat) (hk : k ≤ 1000) (W : World) => rep_any (k : Int) k rfl hk W)
      have hm200 : m ≤ 200 := by
        have : blk l ≤ l.length := List.count_le_length
        omega
      clear hx1 hv hT hx2 hwt htx hok hssb hnb hzl hel hZ hss hm hn
      go_enter Try.func12, Try.ntmps12
      go_wp2_with fail
      refine (C1.out _).mono ?_
      rintro e w1 ⟨v, rfl, ho, hb⟩
      obtain ⟨gq, cp, rfl⟩ := own_pos ho hl1
      have CC := Lib.hid (C2.out _ _ _ _ ho)
      clear ho
      go_wp2_with fail
      refine CC.out.mono ?_
      rintro e w2 ⟨v, rfl, ho, hb2⟩
      obtain ⟨gs, cs, rfl⟩ := own_pos ho hm1
      have HB2 := Lib.hid (hb.trans (below_le hb2 hb.size))
      have hcs := (ow_cap ho).1
      have hcm : cs ≤ 9223372036854775807 := by have := (ow_cap ho).2; unfold maxLen at this; omega
      have HO2 := Lib.hid ho
      have HO0 := Lib.hid (ho.alloc (.stringIter ⟨l.toArray⟩ 0))
      have HI0 := Lib.hid (World.iter_heap w2 ⟨l.toArray⟩ 0)
      have HB0 := Lib.hid (below_iter w2 ⟨l.toArray⟩ 0)
      clear ho hb hb2
      go_wp2
      go_loopw [8, 10] (fun sv str wr => ∃ (pos k o : Nat) (out : List UInt8), pos ≤ n ∧ k ≤ m ∧ (o = k ∨ m - k = 0) ∧ out.length ≤ 121 * pos ∧ sv = .slice (some ⟨gs, o, none⟩) (m - k) (cs - k) ∧ str = .string ⟨out.toArray⟩ ∧ Hid (st l ss = out ++ st (l.drop pos) (ss.drop k)) ∧ Hid (blk (l.drop pos) + k = m) ∧ Hid (Ow wr w1.heap.size gs m cs ss) ∧ Hid (wr.heap[w2.heap.size]? = some (.stringIter ⟨l.toArray⟩ pos)) ∧ Hid (Below w2.heap.size w2 wr)) (fun _ _ wr => n - wr.iterPos w2.heap.size)
      case atStart => exact ⟨0, 0, 0, [], by omega, by omega, _root_.Or.inl rfl, by simp, by simp, rfl, Lib.hid (by simp), Lib.hid (by rw [List.drop_zero, HM.out]; rfl), HO0, HI0, HB0⟩
      case round =>
        obtain ⟨pos, k, o, out, hpos, hk, hok2, hout, rfl, rfl, HST, HBL, HO, HI, HB⟩ := hrel
        clear HO0 HI0 HB0
        by_cases hp : pos < n
        · have hpl : pos < l.length := by rw [HN.out]; exact hp
          obtain ⟨b, hb⟩ : ∃ b, l[pos] = b := ⟨_, rfl⟩
          have hb128 := HA.out pos hpl
          rw [hb] at hb128
          have hnx := nx_ascii_at wr w2.heap.size l pos HI.out hpl b hb (by omega)
          have HOX := Lib.hid (own_iterAt (pos' := pos + 1) HO.out HI.out)
          have HIX := Lib.hid (iterAt_heap wr w2.heap.size ⟨l.toArray⟩ pos (pos + 1) HI.out)
          have HBX := Lib.hid (below_iterAt HB.out (Nat.le_refl _) ⟨l.toArray⟩ (pos + 1))
          obtain ⟨wx, hwx⟩ : ∃ wx, wr.iterAt w2.heap.size ⟨l.toArray⟩ (pos + 1) = wx := ⟨_, rfl⟩
          rw [hwx] at hnx HOX HIX HBX
          have HPW := Lib.hid (show wr.iterPos w2.heap.size = pos by unfold World.iterPos; rw [HI.out])
          have hst := st_at l pos hpl (ss.drop k)
          have hbk := blk_at l pos hpl
          rw [hb] at hst hbk
          have hos := ba_size out
          have hsz2 : (⟨out.toArray⟩ : ByteArray).size ≤ 24200 := by rw [hos]; omega
          by_cases hbl : b = 32
          · have tq : ((b.toNat : Int) == 32) = true := by rw [hbl]; rfl
            have tq2 : ((b.toNat : Int) != 32) = false := by rw [hbl]; rfl
            rw [if_pos hbl] at hst hbk
            have hkm : k < m := by have := HBL.out; omega
            obtain rfl : o = k := by omega
            have hkm2 : o < ss.length := by rw [HSL.out]; exact hkm
            have hgd : (ss.drop o).headD 0 = ss[o] := by rw [List.drop_eq_getElem_cons hkm2]; rfl
            have htl : (ss.drop o).tail = ss.drop (o + 1) := by rw [List.drop_eq_getElem_cons hkm2]; rfl
            have hce := ow_cell HOX.out (k := o) hkm
            rw [show ss.getD o 0 = ss[o] by simp [List.getD, List.getElem?_eq_getElem hkm2]] at hce
            have hzb := HEL.out _ (List.getElem_mem hkm2)
            obtain ⟨z, hz⟩ : ∃ z, ss[o] = z := ⟨_, rfl⟩
            rw [hz] at hgd hce hzb
            obtain ⟨q, rfl⟩ := Int.eq_ofNat_of_zero_le hzb.1
            have hq : q ≤ 120 := by omega
            have CR := Lib.hid (fun W => HR.out q (by omega) W)
            have HST2 := Lib.hid (show st l ss = (out ++ bl q) ++ st (l.drop (pos + 1)) (ss.drop (o + 1)) by rw [HST.out, hst, hgd, htl, Int.toNat_natCast, List.append_assoc])
            have HBL2 := Lib.hid (show blk (l.drop (pos + 1)) + (o + 1) = m by have := HBL.out; omega)
            have HAP := Lib.hid (mk_append out (bl q))
            have hbs := ba_size (bl q)
            rw [bl_len] at hbs
            have HLN := Lib.hid (show (out ++ bl q).length ≤ 121 * (pos + 1) by rw [List.length_append, bl_len]; omega)
            have hmk : (0 : Int) < ((m - o : Nat) : Int) := by omega
            obtain ⟨o2, r7, ho2⟩ := cut_run gs o (m - o) (cs - o) 1 1 rfl (by omega) (by omega)
            obtain ⟨x, hx⟩ : ∃ x, b.toNat = x := ⟨_, rfl⟩
            rw [hx] at hnx tq tq2
            clear hb hb128 hbl hwx hst hbk hgd htl hzb hz hx hok2
            go_wp2_with fail
            refine (CR.out _).mono ?_
            rintro e w4 ⟨rfl, hb4⟩
            have hlt4 : w2.heap.size < wx.heap.size := (Array.getElem?_eq_some_iff.1 HIX.out).1
            have HI4 := Lib.hid ((hb4.block w2.heap.size hlt4).trans HIX.out)
            have HO4 := Lib.hid (Li.own_on HOX.out hb4)
            have HB4 := Lib.hid (HBX.out.trans (below_le hb4 HBX.out.size))
            clear hb4 hlt4
            go_wp2
            go_roundw
            case rel => exact ⟨pos + 1, o + 1, o2, out ++ bl q, by omega, by omega, by omega, HLN.out, by first | (congr 1 <;> omega) | trace_state, by rw [← HAP.out], HST2, HBL2, HO4, HI4, HB4⟩
            case measure =>
              have e1 : w4.iterPos w2.heap.size = pos + 1 := by unfold World.iterPos; rw [HI4.out]
              rw [e1, HPW.out]
              omega
          · have tq : ((b.toNat : Int) == 32) = false := by
              rw [beq_eq_false_iff_ne]
              intro e
              exact hbl (UInt8.toNat_inj.1 (by show b.toNat = 32; omega))
            have tq2 : ((b.toNat : Int) != 32) = true := by
              rw [bne_iff_ne]
              intro e
              exact hbl (UInt8.toNat_inj.1 (by show b.toNat = 32; omega))
            rw [if_neg hbl] at hst hbk
            have henc := enc_ascii b (by omega)
            have HST2 := Lib.hid (show st l ss = (out ++ [b]) ++ st (l.drop (pos + 1)) (ss.drop k) by rw [HST.out, hst]; simp)
            have HBL2 := Lib.hid (show blk (l.drop (pos + 1)) + k = m by have := HBL.out; omega)
            have HAP := Lib.hid (mk_append out [b])
            have hbs := ba_size [b]
            have HLN := Lib.hid (show (out ++ [b]).length ≤ 121 * (pos + 1) by rw [List.length_append]; simp; omega)
            obtain ⟨x, hx⟩ : ∃ x, b.toNat = x := ⟨_, rfl⟩
            obtain ⟨B1, hB1⟩ : ∃ B1, (⟨[b].toArray⟩ : ByteArray) = B1 := ⟨_, rfl⟩
            rw [hx] at hnx tq tq2 henc
            rw [hB1] at henc HAP hbs
            have hbs2 : B1.size = 1 := hbs
            clear hb hb128 hbl hwx hst hbk hx hB1 hbs
            go_wp2
            go_roundw
            case rel => exact ⟨pos + 1, k, o, out ++ [b], by omega, hk, hok2, HLN.out, rfl, by rw [← HAP.out], HST2, HBL2, HOX, HIX, HBX⟩
            case measure =>
              have e1 : wx.iterPos w2.heap.size = pos + 1 := by unfold World.iterPos; rw [HIX.out]
              rw [e1, HPW.out]
              omega
        · have hnx := nx_end_at wr w2.heap.size l pos HI.out (by rw [HN.out]; exact hp)
          have HF := Lib.hid (show (⟨out.toArray⟩ : ByteArray) = T by
            rw [← HT.out, HST.out, List.drop_of_length_le (by rw [HN.out]; omega)]
            simp [st])
          have HBF := Lib.hid (HB2.out.trans (below_le HB.out HB2.out.size))
          go_wp2
          go_ret2
          exact ⟨rsb HF.out rfl, HBF.out⟩
end Ln
end Go.Proofs.Ytbebojahjfnkiaa
