/- What FileBytes wants beside the file: errors, Load of other lengths, its arguments, the variable heads (five texts in one: a claim may have sixty files). -/
import Derived.Test.YtdkigiemhkoijaaDoorRow
import Derived.LaidEql
import Derived.Stop.Asserts
import Derived.RowKitTokens
import Derived.Test.YtdkigiemhkoijaaDoorBegun5
import Derived.Test.YtdkigiemhkoijaaDoorArgs
import Derived.ProofKit
import Derived.Deep.Matrix
import Derived.LaidMore
import Derived.OpenShut
import Derived.Stop.Joined
import Derived.Lib.LaidTab
/- errors.Is between errors that are constants of the package api's integer type, and the law's own Is. -/
namespace Go.Proofs.YtdkigiemhkoijaaDoor
set_option maxRecDepth 100000
open Go.RowKit Go.Extern.Stop Go.Stop Go.Extern

section
variable {P : Program} (w : World)
theorem run_equalIn_iface_int (d : Nat) {ti tn : TypeId} {ms : Array (String × TypeId)} {i : TypeInfo} {k : IntKind} (a b : Int)
    (hi : P.underlying ti = some (.interface ms)) (hn : P.underlying tn = some (.int k)) (hinfo : P.info? tn = some i) (hcomp : i.comparable = true) :
    (Op.equalIn (d + 2) ti (.iface tn (.int k a)) (.iface tn (.int k b))).run P w = .ok (a == b) w := by
  simp [Op.equalIn, run_underlying hi, run_underlying hn, typeInfo, hinfo, hcomp]

theorem run_eql_iface_int {ti tn : TypeId} {ms : Array (String × TypeId)} {i : TypeInfo} {k : IntKind} (a b : Int)
    (hi : P.underlying ti = some (.interface ms)) (hn : P.underlying tn = some (.int k)) (hinfo : P.info? tn = some i) (hcomp : i.comparable = true) :
    (binOp .eql ti (.iface tn (.int k a)) (.iface tn (.int k b))).run P w = .ok (.bool (a == b)) w := by
  simp only [binOp]
  simp [Op.equal, Op.maxDepth, run_equalIn_iface_int w 9998 a b hi hn hinfo hcomp]
end

abbrev apiErr (n : Int) : Value := .iface 41 (.int .i64 n)

theorem Tryd.isTypeOf (v : Value) (w : World) : (Extern.ReflectliteType.typeOf #[.iface 41 v]).run Tryd.prog w = .ok (.iface 104 (.agg #[.pointer (some ⟨Tryd.prog.globals.size, 41, none⟩)])) w := by kernel_rfl
def cmpBody : Array Value → Sem Value := Extern.ReflectliteType.method fun t => do Extern.Rtype.noPackHeld "Comparable" t; pure (.bool (← typeInfo t).comparable)
theorem Tryd.isComparable (w : World) : (cmpBody #[.agg #[.pointer (some ⟨Tryd.prog.globals.size, 41, none⟩)]]).run Tryd.prog w = .ok (.bool true) w := by kernel_rfl
theorem Tryd.isMethodComparable (n : Nat) (v : Value) (w : World) : (Go.method (n + 1) 104 v "Comparable").run Tryd.prog w = .ok (97, v) w := by kernel_rfl
theorem Tryd.isComp : (Tryd.prog.info? 41).map (·.comparable) = some true := by kernel_rfl

/-- errors.Is(x, x). -/
theorem errIs_same (a : Int) (w : World) :
    Calls Tryd.prog 23 #[apiErr a, apiErr a] w fun e w' => e = .returned (.bool true) ∧ w = w' := by
  obtain ⟨i, hi, hcmp⟩ := Option.map_eq_some_iff.1 Tryd.isComp
  have h8 := @run_callFunc_extern Tryd.prog 40 _ Extern.ReflectliteType.typeOf Tryd.func40 (by kernel_rfl) (by kernel_rfl) (by kernel_rfl) (by kernel_rfl)
  have h32 := @run_callFunc_extern Tryd.prog 97 _ cmpBody Tryd.func97 (by kernel_rfl) (by kernel_rfl) (by kernel_rfl) (by kernel_rfl)
  have tT := Tryd.isTypeOf
  have cT := Tryd.isComparable
  have mR := Tryd.isMethodComparable
  obtain ⟨G, hG⟩ : ∃ G, G = Tryd.prog.globals.size := ⟨_, rfl⟩
  simp only [← hG] at cT tT
  clear hG
  have heq := fun w => run_eql_iface_int (P := Tryd.prog) w a a Tryd.underlying31 Tryd.underlying41 hi hcmp
  simp only [apiErr]
  go_enter Tryd.func23, Tryd.ntmps23
  go_wp2
  refine wp_loop_rounds 1 ?_
  rw [rounds_succ]
  go_wp2
  go_ret
  exact ⟨rfl, rfl⟩

theorem errIs_nil (a : Int) (w : World) :
    Calls Tryd.prog 23 #[.nilIface, apiErr a] w fun e w' => e = .returned (.bool false) ∧ w = w' := by
  have hn := run_eql_iface_nil_left (P := Tryd.prog) w 41 (.int .i64 a) Tryd.underlying31
  simp only [apiErr]
  go_enter Tryd.func23, Tryd.ntmps23
  go_wp2
  go_ret
  exact ⟨rfl, rfl⟩

end Go.Proofs.YtdkigiemhkoijaaDoor

/- Is of two errors of api that are one: true. -/
namespace Go.Proofs.YtdkigiemhkoijaaDoor.Ino
open Go.RowKit Go.Maps Go.Proofs.YtdkigiemhkoijaaDoor
set_option maxRecDepth 100000

theorem isF_same (a : Int) (h : (a == 0) = false) {w : World} : Calls Tryd.prog 12 #[apiErr a, .int .i64 a] w fun e w' => e = .returned (.bool true) ∧ w = w' := by
  simp only [apiErr]
  go_enter Tryd.func12, Tryd.ntmps12
  go_wp2_with (go_at_call 23; refine (errIs_same a _).mono ?_; rintro e w' ⟨rfl, rfl⟩)
  go_ret
  exact ⟨rfl, rfl⟩

end Go.Proofs.YtdkigiemhkoijaaDoor.Ino

/- Load of bytes of another length. -/
namespace Go.Proofs.YtdkigiemhkoijaaDoor.Ino
open Go.RowKit Go.Maps Go.Proofs.YtdkigiemhkoijaaDoor
set_option maxRecDepth 100000

/-- Bytes of another length are no file's. -/
theorem unpack_len {w : World} {p : Nat} (ad : Option Addr) (n cap : Nat) (hn : n ≠ 64) : Calls Tryd.prog 18 #[.pointer (some ⟨p, 0, none⟩), .slice ad n cap] w fun e w' => e = .returned (.bool false) ∧ w = w' := by
  have hd : ((n : Int) != 64) = true := by simp only [bne_iff_ne, ne_eq]; omega
  go_enter Tryd.func18, Tryd.ntmps18
  go_wp2
  go_ret
  exact ⟨rfl, rfl⟩

theorem load_len {w : World} {F : Nat → Prop} {s b : Nat} {D : DataW Unit} {S : Sto} (h : IsSto w F s b D S) (ad : Option Addr) (n cap : Nat) (hn : n ≠ 64) : Calls Tryd.prog 7 #[.iface 24 (.pointer (some ⟨s, 0, none⟩)), .slice ad n cap] w fun e w' => e = .returned (.tuple #[.pointer none, apiE 4]) ∧ Keep (fun _ => False) w w' := by
  have H := Lib.hid h
  clear h
  go_enter Tryd.func7, Tryd.ntmps7
  go_wp2_with (first | (go_at_call 5; refine (new_any H.out).mono ?_; rintro e w1 ⟨rfl, _, k1⟩; have K1 := Lib.hid k1; clear k1) | (go_at_call 18; refine (unpack_len ad n cap hn).mono ?_; rintro e w2 ⟨rfl, rfl⟩))
  go_ret2
  exact ⟨rfl, K1.out⟩

end Go.Proofs.YtdkigiemhkoijaaDoor.Ino

/- A []int among a law's arguments, in a seat that has no [][]byte. -/

namespace Go.Proofs.YtdkigiemhkoijaaDoor
open Go.ChangeShapes Go.WideShapes Go.ChangeAt Go.RowKit Go.Deep

set_option maxRecDepth 100000


def icells (zs : List Int) : List Value := zs.map fun n => Value.int .i64 n

/-- A []int among the arguments. -/
theorem arg_ints {H : Type} {enc : TypeId × Value → H} {W : World} {v : Value} {d : DataW H} {ps : List MemPlace} {base : Nat} (hv : Value.okWide Tryd.prog W .any base 22 v) (h : DataW.Trod enc Tryd.prog W 0 (fun _ => true) true 22 v d ps) :
    ∃ l : List Int, Seen W 1 v l.length (icells l) ∧ ∀ n ∈ l, -9223372036854775808 ≤ n ∧ n ≤ 9223372036854775807 := by
  obtain ⟨a0, len, cap, rfl⟩ := okWide_slice Tryd.underlying22 hv
  obtain ⟨fuel, hf⟩ := h
  rcases open_ints Tryd.underlying22 Tryd.underlying3 (by kernel_rfl) hf with ⟨hcs, hx⟩ | ⟨a, len', cap', zs, hcs, _, hl, hm, hz, hx, hc, hw⟩
  · simp [Value.cells] at hcs
    obtain ⟨rfl, rfl, rfl⟩ := hcs
    exact ⟨[], Seen.nil _ _, fun n hn => by simp at hn⟩
  · simp [Value.cells] at hcs
    obtain ⟨rfl, rfl, rfl⟩ := hcs
    have hz' : zs.length = cap := by simpa using hz
    refine ⟨zs.take len, ⟨by simp [icells], some a, cap, by simp; omega, by simp; omega, hm, ?_⟩, fun n hn => ?_⟩
    · rcases Nat.eq_zero_or_pos len with h0 | h0
      · exact .inl (by simp [h0])
      right
      obtain ⟨b, off, spot⟩ := a
      have hspot : spot = none := by simpa [Addr.add] using World.cell?_spot (hc 0 (by omega))
      subst hspot
      refine ⟨b, off, rfl, by simpa [Addr.add] using World.block_lt_of_cell? _ _ (hc 0 (by omega)), fun j u hu => ?_⟩
      have hj : j < len := by
        have := (List.getElem?_eq_some_iff.1 hu).1
        simp [icells] at this; omega
      have := hc j (by omega)
      rw [add_off] at this
      rw [this]
      have hzj : j < zs.length := by omega
      simp only [icells, List.getElem?_map, List.getElem?_take, hj, if_true, List.getElem?_eq_getElem hzj, Option.map_some, Option.some.injEq] at hu
      rw [← hu, List.getD_eq_getElem?_getD, List.getElem?_eq_getElem hzj]
      rfl
    · have hwf := hw n (List.mem_of_mem_take hn)
      simpa [Lit.wf, show IntKind.i64.min = -9223372036854775808 from rfl, show IntKind.i64.max = 9223372036854775807 from rfl] using hwf

end Go.Proofs.YtdkigiemhkoijaaDoor

/- The variable of inode: a start that meets a tied row's condition. -/
namespace Go.Proofs.YtdkigiemhkoijaaDoor
set_option maxRecDepth 100000
open Go.ChangeShapes Go.WideShapes Go.ChangeAt Go.RowKit

abbrev laidHeads : List (String × DataW Unit) := [("lychgate/inode.heads", Rows.laid_lychgate_inode_heads)]

/-- The door's own heap meets the condition. -/
theorem door_met5 (os : Os) (args : Array Value) : laidMetH Tryd.prog laidHeads ((World.doorLaid Tryd.prog 14 os).forCall (fun _ _ => 0) ⟨#[], args, []⟩).memory :=
  laidMetH_of_parts3 (fuel := 8) (laidMet_of_run' 8 (by kernel_rfl) (by kernel_rfl)) (by kernel_rfl) (by kernel_rfl)

theorem Tryd.own5 : ownKnob Tryd.prog.godebug = none := by kernel_rfl
theorem Tryd.laidOut5 : laidOutB Tryd.prog = true := by kernel_rfl

end Go.Proofs.YtdkigiemhkoijaaDoor

