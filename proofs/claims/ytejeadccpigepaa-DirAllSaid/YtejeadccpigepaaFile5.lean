/- Files on blocks: Write, Read, New in one word each. -/
import Derived.Test.YtejeadccpigepaaWriteF
import Derived.Test.YtejeadccpigepaaFok
import Derived.Test.YtejeadccpigepaaNew5
namespace Go.Proofs.Ytejeadccpigepaa.Ino
open Go.RowKit Go.Maps Go.Proofs.Ytejeadccpigepaa
set_option maxRecDepth 100000

/-- A file that is well lies in memory. -/
structure Fl (w : World) (F : Nat → Prop) (p s : Nat) (S : Sto) (size : Nat) (T : List Nat) : Prop where
  file : IsFile w F p s S size T
  ok : Fok S T
  top : size ≤ 102400

/-- Is there room for a Write? -/
def fitsW (S : Sto) (T : List Nat) (a n : Nat) : Prop := S.c + ((growTo (a / 512) ((a + n + 511) / 512) T S.nxt 203).2 - S.nxt) ≤ S.most

theorem Fl.keep {G : Nat → Prop} {w w' : World} {F : Nat → Prop} {p s : Nat} {S : Sto} {size : Nat} {T : List Nat} (h : Fl w F p s S size T) (k : Keep G w w') (hp : ¬ G p) (hG : ∀ x, F x → ¬ G x) : Fl w' F p s S size T := ⟨h.file.keep k hp hG, h.ok, h.top⟩
theorem Fl.keep0 {w w' : World} {F : Nat → Prop} {p s : Nat} {S : Sto} {size : Nat} {T : List Nat} (h : Fl w F p s S size T) (k : Keep (fun _ => False) w w') : Fl w' F p s S size T := h.keep k (fun h => h) (fun _ _ h => h)

theorem Fok.mem {S : Sto} {T : List Nat} (h : Fok S T) : ∀ x ∈ T, x ≤ S.nxt := fun x hx => by
  obtain ⟨j, hj, rfl⟩ := List.mem_iff_getElem.1 hx
  have := h.small j
  rwa [tg, List.getD_eq_getElem?_getD, List.getElem?_eq_getElem hj] at this

theorem fl_write {w : World} {F : Nat → Prop} {p s : Nat} {S : Sto} {size : Nat} {T : List Nat} (h : Fl w F p s S size T) (hx : S.nxt + 203 < 100000) (at_ : Nat) {v : Value} {b : List UInt8} (hb : Seen w 1 v b.length (bcells b)) (hl : b.length ≤ 50000) (hb0 : 0 < b.length) (ha : at_ + b.length ≤ 102400) (hfit : fitsW S T at_ b.length) :
    Calls Try.prog 30 #[.pointer (some ⟨p, 0, none⟩), .int .i64 (at_ : Int), v] w fun e w' => e = .returned .nilIface ∧ ∃ F' S' T', Fl w' F' p s S' (max size (at_ + b.length)) T' ∧ S'.most = S.most ∧ S.nxt ≤ S'.nxt ∧ S'.nxt ≤ S.nxt + 203 ∧ S'.c = cntB T' 203 ∧ S'.nxt = (growTo (at_ / 512) ((at_ + b.length + 511) / 512) T S.nxt 203).2 ∧ T' = (growTo (at_ / 512) ((at_ + b.length + 511) / 512) T S.nxt 203).1 ∧ (∃ G, Grw S G ∧ G.nxt = (growTo (at_ / 512) ((at_ + b.length + 511) / 512) T S.nxt 203).2 ∧ S' = putAll G T' (laidL S T b.length at_ b ++ pagedL T T' 203)) ∧
      (∀ i, i < 102400 → fileB S' T' i = if at_ ≤ i ∧ i < at_ + b.length then b.getD (i - at_) 0 else fileB S T i) ∧ Keep (fun x => F x ∨ x = p) w w' ∧ ∀ x, F' x → F x ∨ w.heap.size ≤ x := by
  refine (write_any h.file h.ok.held hx h.ok.cm h.ok.mem at_ hb hl hb0 ha hfit).mono ?_
  rintro e w' ⟨rfl, F', G, hG, hn, h2, k, hF⟩
  have hw := write_holds h.ok (blkOf_len h.file h.ok.held) at_ b hb0 hG hn hfit rfl rfl
  have ht := growTo_add (at_ / 512) ((at_ + b.length + 511) / 512) T S.nxt 203
  have hle := hG.le
  refine ⟨rfl, F', _, _, ⟨h2, hw.1, ?_⟩, hw.2.2.1, by rw [hw.2.2.2.1, ← hn]; exact hle, by rw [hw.2.2.2.1]; exact ht, hw.2.1, hw.2.2.2.1, rfl, ⟨G, hG, hn, rfl⟩, hw.2.2.2.2, k, hF⟩
  have := h.top
  omega

theorem fl_full {w : World} {F : Nat → Prop} {p s : Nat} {S : Sto} {size : Nat} {T : List Nat} (h : Fl w F p s S size T) (hx : S.nxt + 203 < 100000) (at_ : Nat) {v : Value} {b : List UInt8} (hb : Seen w 1 v b.length (bcells b)) (hl : b.length ≤ 50000) (hb0 : 0 < b.length) (ha : at_ + b.length ≤ 102400) (hfit : ¬ fitsW S T at_ b.length) :
    Calls Try.prog 30 #[.pointer (some ⟨p, 0, none⟩), .int .i64 (at_ : Int), v] w fun e w' => ∃ r nx F', e = .returned (.iface 127 (.pointer (some ⟨r, 0, none⟩))) ∧ S.nxt ≤ nx ∧ nx ≤ S.nxt + 203 ∧ Fl w' F' p s { S with nxt := nx } size T ∧ Keep F w w' ∧ (∀ x, F' x → F x ∨ w.heap.size ≤ x) ∧ ErrAt w' w.heap.size r := by
  refine (writeFull_any h.file h.ok.held hx h.ok.cm h.ok.mem at_ hb hl hb0 ha hfit).mono ?_
  rintro e w' ⟨r, nx, F', rfl, h1, h2, h3, k, hF, hE⟩
  exact ⟨r, nx, F', rfl, h1, h2, ⟨h3, ⟨h.ok.len, fun k => Nat.le_trans (h.ok.small k) h1, h.ok.inj, h.ok.held, h.ok.count, h.ok.cm⟩, h.top⟩, k, hF, hE⟩

theorem fileB_nxt (S : Sto) (T : List Nat) (nx i : Nat) : fileB { S with nxt := nx } T i = fileB S T i := rfl

/-- Write of no bytes. -/
theorem write_none {w : World} {F : Nat → Prop} {p s : Nat} {S : Sto} {size : Nat} {T : List Nat} (h : IsFile w F p s S size T) (at_ : Nat) (ad : Option Addr) (cap : Nat) :
    Calls Try.prog 30 #[.pointer (some ⟨p, 0, none⟩), .int .i64 (at_ : Int), .slice ad 0 cap] w fun e w' => e = .returned .nilIface ∧ w = w' := by
  have HW := Lib.hid (works_any h)
  clear h
  go_enter Try.func30, Try.ntmps30
  go_wp2_with (go_at_call 37; refine HW.out.mono ?_; rintro e w1 ⟨rfl, rfl⟩)
  go_ret
  exact ⟨rfl, rfl⟩

theorem fl_read {w : World} {F : Nat → Prop} {p s : Nat} {S : Sto} {size : Nat} {T : List Nat} (h : Fl w F p s S size T) (at_ n m : Nat) (hm : min n (size - at_) = m) :
    Calls Try.prog 28 #[.pointer (some ⟨p, 0, none⟩), .int .i64 (at_ : Int), .int .i64 (n : Int)] w fun e w' => ∃ v, e = .returned (.tuple #[v, .nilIface]) ∧ Row w' 5 1 v m (bcells (fileL S T at_ m)) ∧ Keep (fun _ => False) w w' := by
  by_cases hat : size ≤ at_
  · refine (readf_none h.file at_ n hat).mono ?_
    rintro e w' ⟨rfl, k⟩
    obtain rfl : m = 0 := by omega
    exact ⟨_, rfl, Row.nil _ _ _, k⟩
  · exact readf_any h.file h.ok.held at_ n (by omega) h.top m hm

theorem fl_new {w : World} {F : Nat → Prop} {s b : Nat} {D : DataW Unit} {S : Sto} (h : IsSto w F s b D S) (h0 : S.c = 0) :
    Calls Try.prog 5 #[.iface 24 (.pointer (some ⟨s, 0, none⟩))] w fun e w' => e = .returned (.pointer (some ⟨w.heap.size, 0, none⟩)) ∧ Fl w' F w.heap.size s S 0 zero203 ∧ Keep (fun _ => False) w w' := by
  refine (new_any h).mono ?_
  rintro e w' ⟨rfl, h2, k⟩
  exact ⟨rfl, ⟨h2, Fok.fresh S h0, by omega⟩, k⟩

end Go.Proofs.Ytejeadccpigepaa.Ino
