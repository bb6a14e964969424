/- Ranges read back out of their text, by the model and by the program. -/
import Derived.Test.YtlghonnakokioaaDoorLrl
import Derived.Maps.AppendAt
namespace Go.Proofs.YtlghonnakokioaaDoor
open Go.RowKit Go.Joins Go.Deep Go.ChangeShapes Go.WideShapes
set_option linter.unusedVariables false
set_option linter.unusedSimpArgs false
namespace Pr
open Rg Gm Sr Lr
open P hiding idx_at sl_from
def pr (l : List UInt8) : PR := (sp 44 l).map fun p => (lF p, lT p)
def pok (l : List UInt8) : Bool := if l = [] then true else decide (l.length ≤ 200) && ((sp 44 l).all lok && good (flat (pr l)) (sp 44 l).length)
def pn (l : List UInt8) : Nat := if l = [] then 0 else if pok l = true then (sp 44 l).length else 0
def pz (l : List UInt8) : List Int := if l = [] then [] else if pok l = true then flat (pr l) else []
theorem no_of {l : List UInt8} (h0 : ¬ l = []) (h : pok l = false) : pok l = false ∧ pn l = 0 ∧ pz l = [] :=
  ⟨h, by unfold pn; rw [if_neg h0, if_neg (by rw [h]; simp)], by unfold pz; rw [if_neg h0, if_neg (by rw [h]; simp)]⟩
theorem c_nil : pok [] = true ∧ pn [] = 0 ∧ pz [] = [] := ⟨rfl, rfl, rfl⟩
theorem c_long {l : List UInt8} (h0 : ¬ l = []) (h : ¬ l.length ≤ 200) : pok l = false ∧ pn l = 0 ∧ pz l = [] :=
  no_of h0 (by unfold pok; rw [if_neg h0, decide_eq_false h]; rfl)
theorem getD_mem (L : List (List UInt8)) (k : Nat) (h : k < L.length) : L.getD k [] ∈ L := by
  simp [List.getD, List.getElem?_eq_getElem h]
theorem c_bad {l : List UInt8} (h0 : ¬ l = []) {k : Nat} (hk : k < (sp 44 l).length) (h : lok ((sp 44 l).getD k []) = false) : pok l = false ∧ pn l = 0 ∧ pz l = [] :=
  no_of h0 (by
    have e : (sp 44 l).all lok = false := by
      cases ha : (sp 44 l).all lok with
      | false => rfl
      | true => have := List.all_eq_true.1 ha _ (getD_mem _ k hk); rw [h] at this; cases this
    unfold pok
    rw [if_neg h0, e, Bool.false_and, Bool.and_false])
theorem all_of {L : List (List UInt8)} {p : List UInt8 → Bool} (h : ∀ k, k < L.length → p (L.getD k []) = true) : L.all p = true := by
  rw [List.all_eq_true]
  intro x hx
  obtain ⟨k, hk, e⟩ := List.getElem_of_mem hx
  have := h k hk
  rwa [show L.getD k [] = x by simp [List.getD, List.getElem?_eq_getElem hk, e]] at this
theorem c_all {l : List UInt8} (h0 : ¬ l = []) (h2 : l.length ≤ 200) (h : ∀ k, k < (sp 44 l).length → lok ((sp 44 l).getD k []) = true) (v : Bool) (hv : good (flat (pr l)) (sp 44 l).length = v) :
    (v = true → pok l = true ∧ pn l = (sp 44 l).length ∧ pz l = flat (pr l)) ∧ (v = false → pok l = false ∧ pn l = 0 ∧ pz l = []) := by
  have e : pok l = v := by unfold pok; rw [if_neg h0, decide_eq_true h2, all_of h, hv]; rfl
  refine ⟨fun e2 => ?_, fun e2 => no_of h0 (by rw [e, e2])⟩
  have e3 : pok l = true := by rw [e, e2]
  exact ⟨e3, by unfold pn; rw [if_neg h0, if_pos e3], by unfold pz; rw [if_neg h0, if_pos e3]⟩
theorem gives_none {l : List UInt8} {b : Bool} {W w' : World} (h : pok l = b ∧ pn l = 0 ∧ pz l = []) (hb : Below W.heap.size W w') : Gives (pok l) (pn l) (pz l) W (.returned (.tuple #[.slice none 0 0, .bool b])) w' := by
  rw [h.1, h.2.1, h.2.2]
  exact ⟨_, rfl, World.ownsRow_nil _ _ _ _, hb⟩
theorem gives_some {l : List UInt8} {v : Value} {n : Nat} {zs : List Int} {W w' : World} (h : pok l = true ∧ pn l = n ∧ pz l = zs) (ho : Own w' W.heap.size v n zs) (hb : Below W.heap.size W w') : Gives (pok l) (pn l) (pz l) W (.returned (.tuple #[v, .bool true])) w' := by
  rw [h.1, h.2.1, h.2.2]
  exact ⟨_, rfl, ho, hb⟩
theorem infoR : (Tryd.prog.info? 26).map (fun i => (i.zero, i.size, i.bytes)) = some (some (.agg #[.int .i64 0, .int .i64 0]), 2, 16) := by kernel_rfl
theorem news2 (w : World) (x y : Value) (T : TypeId) : ∀ j u, [x, y][j]? = some u → (w.alloc (.cells #[x, y] T)).cell? ((⟨w.heap.size, 0, none⟩ : Addr).add j) = some u := by
  intro j u h
  match j, h with
  | 0, h => simp at h; subst h; simp [Addr.add]
  | 1, h => simp at h; subst h; simp [Addr.add]
theorem pr_len (l : List UInt8) : (pr l).length = (sp 44 l).length := by simp [pr]
theorem pr_next (l : List UInt8) {k : Nat} {q : List UInt8} (hk : k < (sp 44 l).length) (hq : (sp 44 l).getD k [] = q) : flat ((pr l).take (k + 1)) = flat ((pr l).take k) ++ [lF q, lT q] := by
  have e : (pr l)[k]'(by rw [pr_len]; exact hk) = (lF q, lT q) := by
    unfold pr
    rw [List.getElem_map]
    rw [show (sp 44 l)[k] = q by rw [← hq]; simp [List.getD, List.getElem?_eq_getElem hk]]
  rw [List.take_succ_eq_append_getElem (by rw [pr_len]; exact hk), flat_append, e]
  rfl
theorem nums_app (zs : List Int) (x y : Int) : Li.nums (zs ++ [x, y]) = Li.nums zs ++ [.int .i64 x, .int .i64 y] := by simp [Li.nums]
theorem strs_split (c : UInt8) (l : List UInt8) : ((Lib.splitB ⟨#[c]⟩ 0 (Lib.countB ⟨l.toArray⟩ ⟨#[c]⟩) ⟨l.toArray⟩).map Value.string) = P.strs (sp c l) ∧ Lib.countB ⟨l.toArray⟩ ⟨#[c]⟩ + 1 = (sp c l).length := by
  have hk := split_eq c (⟨l.toArray⟩ : ByteArray).size ⟨l.toArray⟩ (Nat.le_refl _)
  have e : (⟨l.toArray⟩ : ByteArray).data.toList = l := by simp
  rw [e] at hk
  constructor
  · rw [← hk]
    unfold P.strs
    rw [List.map_map]
    apply List.map_congr_left
    intro x _
    simp
  · rw [← hk, List.length_map]
    exact (Lib.splitB_all ⟨#[c]⟩ (Nat.le_refl 1) 0 _ _ rfl).symm
/-- the parts, in new memory -/
def Parts (l : List UInt8) (W : World) (e : Ending) (w' : World) : Prop := ∃ g cap, e = .returned (.slice (some ⟨g, 0, none⟩) (sp 44 l).length cap) ∧ w'.ownsRow W.heap.size 9 1 (.slice (some ⟨g, 0, none⟩) (sp 44 l).length cap) (sp 44 l).length (P.strs (sp 44 l)) ∧ Below W.heap.size W w'
theorem iParts (l : List UInt8) (hl : l.length ≤ 200) (W : World) (hE : Env W) :
    Calls Tryd.prog 45 #[.string ⟨l.toArray⟩, .string ⟨#[44]⟩] W (Parts l W) := by
  have hs : (⟨l.toArray⟩ : ByteArray).size = l.length := by show l.toArray.size = _; simp
  obtain ⟨⟨m, h1⟩, _⟩ := hE
  obtain ⟨k1, k2⟩ := strs_split 44 l
  have hn := sp_le 44 l
  refine (Tryd.strings_Split ⟨l.toArray⟩ ⟨#[44]⟩ m W (by omega) h1 (Nat.le_refl 1)).mono ?_
  rintro e w' ⟨rfl, rfl⟩
  rw [k2, k1]
  refine ⟨_, _, rfl, ?_, (Below.refl _ _).alloc (Nat.le_refl _) _⟩
  have := World.ownsRow_lit (base := W.heap.size) (e := 9) (size := 1) W (P.strs (sp 44 l)).toArray (sp 44 l).length (Nat.le_refl _) (by unfold maxLen; omega) (by simp [P.strs])
  simpa using this
theorem sParts (l : List UInt8) (hl : l.length ≤ 200) (W : World) :
    Calls Tryd.prog 50 #[.string ⟨l.toArray⟩, .int .u8 44] W (Parts l W) := by
  refine (show Calls Tryd.prog 50 #[.string ⟨l.toArray⟩, .int .u8 44] W _ from l1Split_any l 44 (by omega) W).mono ?_
  rintro e w' ⟨v, rfl, o1, hb⟩
  have := sp_pos 44 l
  rcases Li.own_forms o1 with ⟨_, h0⟩ | ⟨g, cap, rfl⟩
  · omega
  · exact ⟨g, cap, rfl, o1, hb⟩
theorem part_at {W : World} {base g n cap : Nat} {L : List (List UInt8)} (h : W.ownsRow base 9 1 (.slice (some ⟨g, 0, none⟩) n cap) n (P.strs L)) (hn : L.length = n) {k : Nat} (hk : k < n) : ∃ q, Hid (L.getD k [] = q) ∧ W.cell? ⟨g, k, none⟩ = some (.string ⟨q.toArray⟩) :=
  ⟨_, Lib.hid rfl, (h.cellAt k (by omega)).trans (strs_at L k (by omega))⟩
theorem news2' (w : World) (x y : Value) (T : TypeId) (o : Obj) : ∀ j u, [x, y][j]? = some u → ((w.alloc o).alloc (.cells #[x, y] T)).cell? ((⟨w.heap.size + 1, 0, none⟩ : Addr).add j) = some u := by
  have e : (w.alloc o).heap.size = w.heap.size + 1 := by simp
  rw [← e]
  exact news2 (w.alloc o) x y T
set_option maxRecDepth 100000 in
set_option maxHeartbeats 4000000 in
theorem sParse0 (l : List UInt8) (hl : l.length ≤ 1048576) (w : World) :
    Calls Tryd.prog 44 #[.string ⟨l.toArray⟩] w (Gives (pok l) (pn l) (pz l) w) := by

  by_cases h0 : l = []
  · subst h0
    go_enter Tryd.func44, Tryd.ntmps44
    go_wp2
    go_ret2
    exact gives_none c_nil (Below.refl _ _)
  · have q0 : (l == []) = false := by rw [beq_eq_false_iff_ne]; exact h0
    have q1 : l.isEmpty = false := by cases l with | nil => exact absurd rfl h0 | cons a r => rfl
    by_cases h2 : l.length ≤ 200
    · have h2' : (l.length : Int) ≤ 200 := by omega
      have CP := Lib.hid (fun W => sParts l h2 W)
      have CL := Lib.hid (fun (q : List UInt8) (hq : q.length ≤ 1048576) W => ixLong_any q hq W)
      have hn1 := sp_pos 44 l
      have hn2 := sp_le 44 l
      have PL := Lib.hid (fun k (hk : k < (sp 44 l).length) => part_le 44 l _ (Lr.getD_mem (sp 44 l) k hk))
      have BAD := Lib.hid (fun k (hk : k < (sp 44 l).length) (h : lok ((sp 44 l).getD k []) = false) => c_bad h0 hk h)
      have ALL := Lib.hid (c_all h0 h2)
      have NX := Lib.hid (fun k q hk hq => @pr_next l k q hk hq)
      have PRL := Lib.hid (pr_len l)
      obtain ⟨i0, hi, hz0, hz1, hz2⟩ := info_parts infoR
      obtain ⟨L, hL⟩ : ∃ L, sp 44 l = L := ⟨_, rfl⟩
      obtain ⟨n, hn⟩ : ∃ n, L.length = n := ⟨_, rfl⟩
      unfold Parts at CP
      rw [hL] at CP hn1 hn2 PL BAD ALL NX PRL
      rw [hn] at CP hn1 hn2 PL BAD ALL NX PRL
      have HN := Lib.hid hn
      clear hL hn h0 h2 hl
      go_enter Tryd.func44, Tryd.ntmps44
      go_wp2_with fail
      refine (CP.out _).mono ?_
      rintro e w1 ⟨g, cap, rfl, o1, hb1⟩
      have O1 := Lib.hid o1
      have HB1 := Lib.hid hb1
      have hw1 := (o1.lt g rfl)
      clear o1 hb1
      go_wp2
      go_loopw [4, 17] (fun p i wr => ∃ k : Nat, k ≤ n ∧ i = .int .i64 (k : Int) ∧ wr.ownsRow w1.heap.size 26 2 p k (Li.nums (flat ((pr l).take k))) ∧ wr.ownsRow w.heap.size 9 1 (.slice (some ⟨g, 0, none⟩) n cap) n (P.strs L) ∧ Below w.heap.size w wr ∧ w1.heap.size ≤ wr.heap.size ∧ ∀ j, j < k → lok (L.getD j []) = true) (fun _ i _ => ((n : Int) - intOf i).toNat)
      case atStart => exact ⟨0, by omega, rfl, World.ownsRow_nil _ _ _ _, O1.out, HB1.out, Nat.le_refl _, fun j hj => by omega⟩
      case round =>
        obtain ⟨k, hk, rfl, hown, hparts, hb, hsz, hall⟩ := hrel
        have HB := Lib.hid hb
        have HA := Lib.hid hall
        clear hb hall
        by_cases hlt : (k : Int) < n
        · have hk2 : k < n := by omega
          obtain ⟨q, HQ, hcq⟩ := part_at hparts HN.out hk2
          have hql := PL.out k hk2
          rw [HQ.out] at hql
          have C1 := Lib.hid (CL.out q (by omega))
          have NXK := Lib.hid (NX.out k q hk2 HQ.out)
          have BADK := Lib.hid (BAD.out k hk2)
          rw [HQ.out] at BADK
          obtain ⟨f, hf⟩ : ∃ f, lF q = f := ⟨_, rfl⟩
          obtain ⟨t, ht⟩ : ∃ t, lT q = t := ⟨_, rfl⟩
          obtain ⟨v, hv⟩ : ∃ v, lok q = v := ⟨_, rfl⟩
          rw [hf, ht, hv] at C1
          rw [hf, ht] at NXK
          rw [hv] at BADK
          have HV := Lib.hid (show lok (L.getD k []) = v by rw [HQ.out, hv])
          have HPw := Lib.hid hparts
          have HOw := Lib.hid hown
          clear hf ht hv hparts hown
          go_wp2_with fail
          refine (C1.out _ ).mono ?_
          rintro e w2 ⟨rfl, hb2⟩
          have X := B2.new w2 (.int .i64 f) (.int .i64 t) 26
          obtain ⟨-, x0, x1⟩ := id X
          have hB2 := below_next HB.out hb2
          have hO2 := Li.own_on HOw.out hb2
          have HP2 := Lib.hid (World.ownsRow.alloc (World.ownsRow.alloc (Li.own_on HPw.out hb2) (.cells #[.int .i64 f, .int .i64 t] 26)) (.cells #[.int .i64 f, .int .i64 t] 26))
          have hs2 : w1.heap.size ≤ w2.heap.size := Nat.le_trans hsz hb2.size
          have hw0 := HB1.out.size
          clear hb2 X
          cases v
          · have BK := Lib.hid (BADK.out rfl)
            have HBK := Lib.hid (hB2.alloc hB2.size (.cells #[.int .i64 f, .int .i64 t] 26))
            clear hB2 hO2 HP2
            go_wp2
            go_ret2
            exact gives_none BK.out HBK.out
          · have HLT := Lib.hid (fun j hj => (hO2.lt j hj).1)
            have HOX := Lib.hid (World.ownsRow.alloc (World.ownsRow.alloc hO2 (.cells #[.int .i64 f, .int .i64 t] 26)) (.cells #[.int .i64 f, .int .i64 t] 26))
            have hBA := hB2.alloc hB2.size (.cells #[.int .i64 f, .int .i64 t] 26)
            have HBX := Lib.hid (hBA.alloc hBA.size (.cells #[.int .i64 f, .int .i64 t] 26))
            have hsz3 := hB2.size
            clear hO2 hB2 hBA
            go_wp2_with (first | (at_builtin; refine wpList_append_own _ rfl _ _ 36 rfl w1.heap.size 26 i0 (.agg #[.int .i64 0, .int .i64 0]) 2 16 Tryd.underlying36 hi hz0 hz1 hz2 rfl (by decide) _ _ _ rfl HOX.out ⟨w2.heap.size + 1, 0, none⟩ 1 1 [.int .i64 f, .int .i64 t] rfl rfl (news2' _ _ _ _ _) (fun u hu => by simp at hu; rcases hu with rfl | rfl <;> rfl) (by unfold maxLen; omega) (by omega) (by simp; omega) ?_; intro v3 w3 hown3 hgrow3 _))
            have HB4 := Lib.hid (HBX.out.grown hgrow3 (by simp; omega) (fun j hj => Nat.le_trans hw0 (HLT.out j hj)))
            have HO3 := Lib.hid (show w3.ownsRow w1.heap.size 26 2 v3 (k + 1) (Li.nums (flat ((pr l).take (k + 1)))) by rw [NXK.out, nums_app]; exact hown3)
            have HP3 := Lib.hid (HP2.out.kept hgrow3 (_root_.Or.inr (fun e => by have := HLT.out g e.symm; have := hw1.2; omega)))
            have HS3 := Lib.hid (show w1.heap.size ≤ w3.heap.size by have := hgrow3.size; simp at this; omega)
            clear hown3 hgrow3
            go_roundw
            case rel => exact ⟨k + 1, by omega, by go_num, HO3.out, HP3.out, HB4.out, HS3.out, fun j hj => by
              by_cases e : j = k
              · subst e; exact HV.out
              · exact HA.out j (by omega)⟩
            case measure => simp [intOf]; omega
        · have ek : k = n := by omega
          subst ek
          rw [List.take_of_length_le (show (pr l).length ≤ k by rw [PRL.out]; exact Nat.le_refl _)] at hown
          rcases Li.own_forms hown with ⟨_, h0⟩ | ⟨gz, cz, rfl⟩
          · omega
          obtain ⟨v, hv⟩ : ∃ v, good (flat (pr l)) k = v := ⟨_, rfl⟩
          have AV := Lib.hid (ALL.out HA.out v hv)
          have CG := Lib.hid (Gw.ixGood_some hown (by omega) v hv)
          have HOW := Lib.hid hown
          have hw0 := HB1.out.size
          clear hown hparts hv
          cases v
          · have BK := Lib.hid (AV.out.2 rfl)
            go_wp2_with fail
            refine CG.out.mono ?_
            rintro e w5 ⟨rfl, hb5⟩
            have HB5 := Lib.hid (below_next HB.out hb5)
            go_wp2
            go_ret2
            exact gives_none BK.out HB5.out
          · have BK := Lib.hid (AV.out.1 rfl)
            go_wp2_with fail
            refine CG.out.mono ?_
            rintro e w5 ⟨rfl, hb5⟩
            have HB5 := Lib.hid (below_next HB.out hb5)
            have HO5 := Lib.hid (Li.own_le (Li.own_on HOW.out hb5) hw0)
            go_wp2
            go_ret2
            exact gives_some BK.out HO5.out HB5.out
    · have h2' : (200 : Int) < (l.length : Int) := by omega
      have BK := Lib.hid (c_long h0 h2)
      clear h2
      go_enter Tryd.func44, Tryd.ntmps44
      go_wp2
      go_ret2
      exact gives_none BK.out (Below.refl _ _)
end Pr
end Go.Proofs.YtlghonnakokioaaDoor
