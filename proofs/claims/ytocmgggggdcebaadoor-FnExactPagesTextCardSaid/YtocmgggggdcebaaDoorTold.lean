/- What spec.PagesText and impl.PagesText answer of any slice of integers: the same. -/
import Derived.Test.YtocmgggggdcebaaDoorImpl
namespace Go.Proofs.YtocmgggggdcebaaDoor
open Go.RowKit
open Classical in
theorem bpList_yes (g n cap : Nat) (zs : List Int) (w : World) (h : RowAt w g 0 n zs) (hp : Pages zs) :
    Calls Tryd.prog 13 #[.slice (some ⟨g, 0, none⟩) n cap] w fun e w' => e = .returned (.bool true) ∧ Below w.heap.size w w' :=
  (bpList_any g n cap zs w h).mono fun _ _ x => ⟨x.1.trans (ret_b (decide_eq_true hp)), x.2⟩
open Classical in
theorem bpList_no (g n cap : Nat) (zs : List Int) (w : World) (h : RowAt w g 0 n zs) (hp : ¬ Pages zs) :
    Calls Tryd.prog 13 #[.slice (some ⟨g, 0, none⟩) n cap] w fun e w' => e = .returned (.bool false) ∧ Below w.heap.size w w' :=
  (bpList_any g n cap zs w h).mono fun _ _ x => ⟨x.1.trans (ret_b (decide_eq_false hp)), x.2⟩
set_option maxRecDepth 100000 in
theorem impl_no (g n : Nat) (zs : List Int) (w : World) (h : RowAt w g 0 n zs) (hp : ¬ Pages zs) :
    Calls Tryd.prog 7 #[.slice (some ⟨g, 0, none⟩) n n] w fun e w' => e = .returned (.tuple #[.string ByteArray.empty, .bool false]) ∧ Below w.heap.size w w' := by
  have L1 := Lib.hid (isPageList_no g n zs w h hp)
  clear h hp
  go_enter Tryd.func7, Tryd.ntmps7
  go_wp2_with fail
  refine L1.out.mono ?_
  rintro e w0 ⟨rfl, hb0⟩
  go_wp2_with fail
  go_ret2
  exact ⟨rfl, hb0⟩
set_option maxRecDepth 100000 in
theorem spec_no (g n : Nat) (zs : List Int) (w : World) (h : RowAt w g 0 n zs) (hp : ¬ Pages zs) :
    Calls Tryd.prog 5 #[.slice (some ⟨g, 0, none⟩) n n] w fun e w' => e = .returned (.tuple #[.string ByteArray.empty, .bool false]) ∧ Below w.heap.size w w' := by
  have L1 := Lib.hid (bpList_no g n n zs w h hp)
  clear h hp
  go_enter Tryd.func5, Tryd.ntmps5
  go_wp2_with fail
  refine L1.out.mono ?_
  rintro e w0 ⟨rfl, hb0⟩
  go_wp2_with fail
  go_ret2
  exact ⟨rfl, hb0⟩
set_option maxRecDepth 100000 in
theorem spec_yes (g n : Nat) (zs : List Int) (w : World) (h : RowAt w g 0 n zs) (hp : Pages zs) :
    Calls Tryd.prog 5 #[.slice (some ⟨g, 0, none⟩) n n] w fun e w' => e = .returned (.tuple #[.string ⟨(T.text zs).toArray⟩, .bool true]) ∧ Below w.heap.size w w' := by
  have L1 := Lib.hid (bpList_yes g n n zs w h hp)
  have L2 := Lib.hid (fun W (hW : RowAt W g 0 n zs) => bpText_any g n n zs W hW hp)
  have HC := Lib.hid h
  clear h hp
  go_enter Tryd.func5, Tryd.ntmps5
  go_wp2_with fail
  refine L1.out.mono ?_
  rintro e w0 ⟨rfl, hb0⟩
  go_wp2_with fail
  refine (L2.out _ (HC.out.on hb0)).mono ?_
  rintro e w1 ⟨rfl, hb1⟩
  go_wp2_with fail
  go_ret2
  exact ⟨rfl, hb0.trans (hb1.mono hb0.size)⟩
end Go.Proofs.YtocmgggggdcebaaDoor
