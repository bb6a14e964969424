/- What a method of bindings tells of a list. -/
import Derived.Test.YtabnjoohojojnaaBx
import Derived.Test.YtabnjoohojojnaaBy
import Derived.Shelf.Abstract
namespace Go.Proofs.Ytabnjoohojojnaa
open Go.RowKit Go.Joins Go.Deep Go.ChangeShapes Go.WideShapes
set_option linter.unusedVariables false
set_option linter.unusedSimpArgs false
namespace Ln
set_option maxRecDepth 100000 in
set_option maxHeartbeats 2000000 in
theorem toldI_no {b1 g len cap : Nat} {zs : List Int} {w : World} (K : Nat) (h : Ow w b1 g len cap zs) (hl : len ≤ 1048576) (hv : bnd zs = false) :
    Calls Try.prog 48 #[.slice (some ⟨g, 0, none⟩) len cap, .func (.func K) #[] #[]] w (Ret (.tuple #[.int .i64 0, .bool false]) w) := by
  have C := Lib.hid (bookOf_no h hl hv)
  clear h hv
  go_enter Try.func48, Try.ntmps48
  go_wp2_with fail
  refine C.out.mono ?_
  rintro e w1 ⟨rfl, hb⟩
  have HB := Lib.hid hb
  clear hb
  go_wp2_with (first | (with_reducible refine wpList_store_new rfl (.tmp 6) (.tmp 12) rfl (nb []) (tb []) ((0 : Nat) : Int) rfl w1.heap.size rfl rfl rfl ?_))
  go_ret2
  exact ⟨rfl, HB.out.alloc HB.out.size _⟩
set_option maxRecDepth 100000 in
set_option maxHeartbeats 2000000 in
theorem toldI_yes {b1 g len cap : Nat} {zs : List Int} {w : World} (K : Nat) (R : Int) (h : Ow w b1 g len cap zs) (hl : len ≤ 1048576) (hv : bnd zs = true) (eg : ∀ args w, (callFunc K args).run Try.prog w = .ok (.enter K args) w)
    (hK : ∀ W, Calls Try.prog K #[.agg (bkA len zs)] W (Ret (.int .i64 R) W)) :
    Calls Try.prog 48 #[.slice (some ⟨g, 0, none⟩) len cap, .func (.func K) #[] #[]] w (Ret (.tuple #[.int .i64 R, .bool true]) w) := by
  have C := Lib.hid (bookOf_yes h hl hv)
  have HK := Lib.hid hK
  clear h hv hK
  go_enter Try.func48, Try.ntmps48
  go_wp2_with fail
  refine C.out.mono ?_
  rintro e w1 ⟨rfl, hb⟩
  have HB := Lib.hid (hb.alloc hb.size (.cells (bkA len zs) 54))
  clear hb
  go_wp2_with (first | (with_reducible refine wpList_store_new rfl (.tmp 6) (.tmp 12) rfl (nb zs) (tb zs) (len : Int) rfl w1.heap.size rfl rfl rfl ?_) | (with_reducible refine wpList_load17 rfl (.tmp 6) rfl w1.heap.size rfl (Arr.new _ _ _) ?_))
  refine (HK.out _).mono ?_
  rintro e w2 ⟨rfl, hb⟩
  have HB2 := Lib.hid (HB.out.trans (hb.mono HB.out.size))
  clear hb
  go_wp2
  go_ret2
  exact ⟨rfl, HB2.out⟩
set_option maxRecDepth 100000 in
set_option maxHeartbeats 2000000 in
theorem toldL_no {b1 g len cap : Nat} {zs : List Int} {w : World} (K : Nat) (h : Ow w b1 g len cap zs) (hl : len ≤ 1048576) (hv : bnd zs = false) :
    Calls Try.prog 46 #[.slice (some ⟨g, 0, none⟩) len cap, .func (.func K) #[] #[]] w (Ret (.tuple #[.slice none 0 0, .bool false]) w) := by
  have C := Lib.hid (bookOf_no h hl hv)
  clear h hv
  go_enter Try.func46, Try.ntmps46
  go_wp2_with fail
  refine C.out.mono ?_
  rintro e w1 ⟨rfl, hb⟩
  have HB := Lib.hid hb
  clear hb
  go_wp2_with (first | (with_reducible refine wpList_store_new rfl (.tmp 6) (.tmp 12) rfl (nb []) (tb []) ((0 : Nat) : Int) rfl w1.heap.size rfl rfl rfl ?_))
  go_ret2
  exact ⟨rfl, HB.out.alloc HB.out.size _⟩
set_option maxRecDepth 100000 in
set_option maxHeartbeats 2000000 in
theorem toldL_yes {b1 g len cap m : Nat} {zs os : List Int} {w : World} (K : Nat) (h : Ow w b1 g len cap zs) (hl : len ≤ 1048576) (hv : bnd zs = true) (eg : ∀ args w, (callFunc K args).run Try.prog w = .ok (.enter K args) w)
    (hK : ∀ W, Calls Try.prog K #[.agg (bkA len zs)] W fun e w' => ∃ v, e = .returned v ∧ w'.ownsRow W.heap.size 3 1 v m (Li.nums os) ∧ Below W.heap.size W w') :
    Calls Try.prog 46 #[.slice (some ⟨g, 0, none⟩) len cap, .func (.func K) #[] #[]] w fun e w' => ∃ v, e = .returned (.tuple #[v, .bool true]) ∧ w'.ownsRow w.heap.size 3 1 v m (Li.nums os) ∧ Below w.heap.size w w' := by
  have C := Lib.hid (bookOf_yes h hl hv)
  have HK := Lib.hid hK
  clear h hv hK
  go_enter Try.func46, Try.ntmps46
  go_wp2_with fail
  refine C.out.mono ?_
  rintro e w1 ⟨rfl, hb⟩
  have HB := Lib.hid (hb.alloc hb.size (.cells (bkA len zs) 54))
  clear hb
  go_wp2_with (first | (with_reducible refine wpList_store_new rfl (.tmp 6) (.tmp 12) rfl (nb zs) (tb zs) (len : Int) rfl w1.heap.size rfl rfl rfl ?_) | (with_reducible refine wpList_load17 rfl (.tmp 6) rfl w1.heap.size rfl (Arr.new _ _ _) ?_))
  refine (HK.out _).mono ?_
  rintro e w2 ⟨v, rfl, ho, hb⟩
  have HB2 := Lib.hid (HB.out.trans (hb.mono HB.out.size))
  have HO := Lib.hid (Li.own_le ho HB.out.size)
  clear hb ho
  go_wp2
  go_ret2
  exact ⟨_, rfl, HO.out, HB2.out⟩
theorem nums_len_own {w : World} {base size n : Nat} {e : TypeId} {v : Value} {os : List Int} (h : w.ownsRow base e size v n (Li.nums os)) (hn : os.length = n) : w.ownsRow base e size v os.length (Li.nums os) := by rw [hn]; exact h
set_option maxRecDepth 100000 in
theorem iCountTurned {b1 g len cap : Nat} {zs : List Int} {w : World} (h : Ow w b1 g len cap zs) (hl : len ≤ 1048576) :
    Calls Try.prog 24 #[.slice (some ⟨g, 0, none⟩) len cap] w (Ret (.tuple #[.int .i64 (ctN zs), .bool (bnd zs)]) w) := by
  have hz := ow_len h
  cases hv : bnd zs
  · rw [show ctN zs = 0 by unfold ctN; rw [hv]; rfl]
    have C := Lib.hid (toldI_no 49 h hl hv)
    clear h hv
    go_enter Try.func24, Try.ntmps24
    go_wp2_with fail
    refine C.out.mono ?_
    rintro e w1 ⟨rfl, hb⟩
    go_wp2
    go_ret2
    exact ⟨rfl, hb⟩
  · rw [show ctN zs = trn zs len by unfold ctN; rw [hv, hz]; rfl]
    have h8 : len ≤ 8 := by have := ((bnd_iff zs).1 hv).2.1; omega
    have C := Lib.hid (toldI_yes 49 (trn zs len) h hl hv (enters_of Try.func49 (by kernel_rfl) rfl) (fun W => countT_any len zs h8 W))
    obtain ⟨R, hR⟩ : ∃ R, trn zs len = R := ⟨_, rfl⟩
    rw [hR] at C ⊢
    clear h hv hR hz
    go_enter Try.func24, Try.ntmps24
    go_wp2_with fail
    refine C.out.mono ?_
    rintro e w1 ⟨rfl, hb⟩
    go_wp2
    go_ret2
    exact ⟨rfl, hb⟩
set_option maxRecDepth 100000 in
theorem iPagesRead {b1 g len cap : Nat} {zs : List Int} {w : World} (h : Ow w b1 g len cap zs) (hl : len ≤ 1048576) :
    Calls Try.prog 20 #[.slice (some ⟨g, 0, none⟩) len cap] w (Gives (bnd zs) (rdZ zs) w) := by
  have hz := ow_len h
  cases hv : bnd zs
  · rw [show rdZ zs = [] by unfold rdZ; rw [hv]; rfl]
    have C := Lib.hid (toldL_no 47 h hl hv)
    clear h hv
    go_enter Try.func20, Try.ntmps20
    go_wp2_with fail
    refine C.out.mono ?_
    rintro e w1 ⟨rfl, hb⟩
    go_wp2
    go_ret2
    exact ⟨_, rfl, World.ownsRow_nil _ _ _ _, hb⟩
  · rw [show rdZ zs = rdL zs len by unfold rdZ; rw [hv, hz]; rfl]
    have B := (bnd_iff zs).1 hv
    have b8 := bnd_8 B
    rw [hz] at b8
    have h8 : len ≤ 8 := by have := B.2.1; omega
    have C := Lib.hid (toldL_yes 47 h hl hv (enters_of Try.func47 (by kernel_rfl) rfl) (fun W => pages_any len zs hz h8 (fun k hk => ⟨(b8 k hk).1, (b8 k hk).2, (B.2.2.2 k (by omega)).1⟩) W))
    have HL := Lib.hid (rdL_len zs len)
    clear h hv hz B b8
    go_enter Try.func20, Try.ntmps20
    go_wp2_with fail
    refine C.out.mono ?_
    rintro e w1 ⟨v, rfl, ho, hb⟩
    have HO := Lib.hid ho
    clear ho
    go_wp2
    go_ret2
    exact ⟨_, rfl, nums_len_own HO.out HL.out, hb⟩
end Ln
end Go.Proofs.Ytabnjoohojojnaa
