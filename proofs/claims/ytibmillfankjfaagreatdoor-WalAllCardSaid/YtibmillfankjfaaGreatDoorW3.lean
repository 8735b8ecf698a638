/- What layer 3's own beginning does: one sector comes home. -/
import Derived.Test.YtibmillfankjfaaGreatDoorLg
namespace Go.Proofs.YtibmillfankjfaaGreatDoor
open Go.RowKit
set_option maxRecDepth 100000

/-- A disk with an empty log and an empty cache. -/
structure Clean (D : Dk) (n : Nat) : Prop where
  cache : D.cache = []
  head : D.las.getD 0 default = zeroSec
  coh : D.Coh
  len : D.las.length = n

theorem open_clean {D : Dk} (hok : D.Ok) (hco : D.Coh) (hc : D.cache = []) (hlen : 128 ≤ D.las.length) (hd : deadB (openD D) = false) :
    Clean (openD D) D.las.length ∧ ∀ i, 48 ≤ i → i < D.las.length → (openD D).las.getD i default = rh D.las i := by
  have h := open_leaves hok hco hc hlen
  exact ⟨⟨h.cache hd, h.head hd, hco.opened, openD_len D⟩, h.home hd⟩

theorem sync_clean {D : Dk} {n : Nat} {g : Grp} (h : Clean D n) (hg : GOk g) (hin : GIn D g) (hn : g.length ≤ 40) (hlen : 128 ≤ n) (hd : deadB (syncD D g) = false) :
    Clean (syncD D g) n ∧ ∀ i, 48 ≤ i → i < n → (syncD D g).las.getD i default = over g D.las i := by
  have hl := h.len
  have k := sync_leaves h.cache hg hin hn (by omega) h.head
  rw [hl] at k
  exact ⟨⟨k.cache hd, k.head hd, h.coh.sync g, by rw [syncD_len, hl]⟩, k.home hd⟩

theorem Clean.crash {D : Dk} {n : Nat} (h : Clean D n) (bs : List Bool) : D.crash bs = Dk.fresh D.las := by
  rw [crash_fresh, h.cache]; simp [pick, putAll]

theorem Clean.rh {D : Dk} {n : Nat} (h : Clean D n) (i : Nat) : rh D.las i = D.las.getD i default := rh_head h.head i

theorem Clean.read {S : LogS} {n : Nat} (h : Clean S.D n) (hw : S.wait = []) (hl : S.lost = []) (i : Nat) : S.read i = S.D.las.getD i default := read_las hw hl (h.coh.clean h.cache) i

theorem zeros_ok (n : Nat) (h : 0 < n) : (Dk.fresh (List.replicate n zeroSec)).Ok := fresh_ok (by simpa using h) (fun s hs => by rw [List.eq_of_mem_replicate hs]; exact zeroSec_size)

theorem open_fresh {L : List ByteArray} (h : (Dk.fresh L).Ok) (hlen : 128 ≤ L.length) : Clean (openD (Dk.fresh L)) L.length ∧ (∀ i, 48 ≤ i → i < L.length → (openD (Dk.fresh L)).las.getD i default = rh L i) ∧ deadB (openD (Dk.fresh L)) = false := by
  have hd : deadB (openD (Dk.fresh L)) = false := live (by rw [open_lim]; rfl)
  obtain ⟨h1, h2⟩ := open_clean h (Dk.Coh.fresh L) rfl hlen hd
  exact ⟨h1, h2, hd⟩

theorem replicate_head (n : Nat) (h : 0 < n) : (List.replicate n zeroSec).getD 0 default = zeroSec := by
  simp [List.getD_eq_getElem?_getD, h]

theorem home_in {n i : Nat} (h1 : 48 ≤ i) (h2 : i < n) : homeB n (i : Int) = true := by
  simp only [homeB, Bool.and_eq_true, decide_eq_true_eq]; omega

theorem secStr_bytes {w : World} {g n c : Nat} {e : TypeId} {l : List UInt8} (h : Row w e 1 (.slice (some ⟨g, 0, none⟩) n c) n (bcells (secOf 512 l))) : BytesAt w g 0 (secStr l).data.toList := by
  exact bytesAt_row h

theorem NewSec.cell0 {w w' : World} {g cap : Nat} {s : ByteArray} (h : NewSec w w' (.slice (some ⟨g, 0, none⟩) 512 cap) s) (j : Nat) (hj : j < 512) : w'.cell? ⟨g, j, none⟩ = some (.int .u8 (byteAt s j)) := by
  obtain ⟨e, g', cap', hv, hr, _⟩ := h.row
  have := hr.cellAt j (by omega)
  rw [Nat.zero_add] at this
  rw [this]
  have h2 := secC_at s h.size j hj
  simp only [secC, List.getElem?_toArray] at h2
  exact h2

theorem NewSec.shape {w w' : World} {v : Value} {s : ByteArray} (h : NewSec w w' v s) : ∃ g cap, v = .slice (some ⟨g, 0, none⟩) 512 cap := by
  obtain ⟨e, g', cap', hv, hr, _⟩ := h.row
  exact ⟨g', cap', hv⟩

theorem secStr_at (x : UInt8) (l : List UInt8) : byteAt (secStr (x :: l)) 0 = x.toNat := by
  have h := secOf_head 512 x l (by omega)
  simp only [byteAt, secStr, Array.getD_eq_getD_getElem?, List.getElem?_toArray]
  rw [h]
  rfl

theorem Dk.Ok.las {D : Dk} (h : D.Ok) : (Dk.fresh D.las).Ok := fresh_ok h.pos h.slas

/-- What the first half of begun comes to, plainly. -/
theorem begun3_val {D1 : Dk} (h : Clean D1 128) (hl : D1.lim = false) (s : ByteArray) (hs : s.size = 512) (hok : (syncD D1 (gput [] 50 s)).Ok) :
    deadB (syncD D1 (gput [] 50 s)) = false ∧ Clean (syncD D1 (gput [] 50 s)) 128 ∧ deadB (openD (Dk.fresh (syncD D1 (gput [] 50 s)).las)) = false ∧ LogS.read ⟨openD (Dk.fresh (syncD D1 (gput [] 50 s)).las), [], [], []⟩ 50 = s := by
  have h1 : deadB (syncD D1 (gput [] 50 s)) = false := live (by rw [sync_lim]; exact hl)
  have hg : GOk (gput [] 50 s) := GOk.nil.put (by omega) hs
  have hin : GIn D1 (gput [] 50 s) := fun x hx => by
    rcases (gput_mem _ _ _ x).1 hx with rfl | hx
    · have := h.len; exact ⟨by simp, by simp only; omega⟩
    · simp at hx
  obtain ⟨c2, v2⟩ := sync_clean h hg hin (by have := gput_le [] 50 s; simp at this; omega) (by omega) h1
  have hlen := c2.len
  obtain ⟨c3, v3, d3⟩ := open_fresh hok.las (by omega)
  refine ⟨h1, c2, d3, ?_⟩
  rw [c3.read rfl rfl, v3 50 (by omega) (by omega), c2.rh, v2 50 (by omega) (by omega)]
  simp [over, glook_put]

set_option maxHeartbeats 2000000 in
theorem begun3_any {w : World} (hT : Tab w) : Calls Tryz.prog 4 #[] w fun e w' => e = .returned (.bool true) ∧ Keep (fun _ => False) w w' := by
  have HT := Lib.hid hT
  have ho := open_fresh (zeros_ok 128 (by omega)) (by rw [List.length_replicate]; omega)
  rw [List.length_replicate] at ho
  have HO := Lib.hid ho
  have HLM : Hid ((openD (Dk.fresh (List.replicate 128 zeroSec))).lim = false) := Lib.hid (by rw [open_lim]; rfl)
  clear hT ho
  go_enter Tryz.func4, Tryz.ntmps4
  go_wp2_with fail
  refine (new_g (Keep.refl _ w) HT.out 128 (by omega) (by omega)).mono ?_
  rintro e w1 ⟨p, rfl, h1⟩
  have H1 := Lib.hid h1; clear h1
  go_wp2_with fail
  refine (open_g H1.out (by omega) (by simp [Dk.fresh]) (by simp [Dk.fresh]) HO.out.2.2).mono ?_
  rintro e w2 ⟨q, rfl, h2⟩
  have H2 := Lib.hid h2; clear h2 H1
  have HC := Lib.hid HO.out.1
  clear HO
  generalize openD (Dk.fresh (List.replicate 128 zeroSec)) = D1 at H2 HC HLM
  go_wp2_with fail
  refine (full_any (l := [7]) (Row.made #[Value.int .u8 7] _ 1 rfl (by simp [maxLen]) rfl).seen (by simp [Value.ownBlock])).mono ?_
  rintro e w3 ⟨rfl, hr, hk3, hs3⟩
  simp only [World.size_alloc] at hr hs3
  have H3 := Lib.hid (H2.out.go (((Keep.refl (fun _ => False) w2).alloc _).trans hk3 (fun _ h => h.elim)))
  have HB := Lib.hid (secStr_bytes hr)
  clear hr hk3 hs3
  go_wp2_with fail
  refine (put_g H3.out 50 _ rfl (by rw [HC.out.len]; exact home_in (by omega) (by omega)) _ 0 512 (secStr [7]) (secStr_size _) HB.out (.inr (by simp))).mono ?_
  rintro e w4 ⟨rfl, h4⟩
  have H4 := Lib.hid h4; clear h4
  have HL1 : Hid (deadB (syncD D1 (gput [] 50 (secStr [7]))) = false) := Lib.hid (live (by rw [sync_lim]; exact HLM.out))
  go_wp2_with fail
  refine (sync_g H4.out (by omega) HL1.out).mono ?_
  rintro e w5 ⟨rfl, h5⟩
  have H5 := Lib.hid h5; clear h5
  have HV := Lib.hid (begun3_val HC.out HLM.out (secStr [7]) (secStr_size _) H5.out.dok)
  go_wp2_with fail
  refine (crash_g H5.out (bs := []) (Seen.nil w5 1) (by simp [Value.ownBlock])).mono ?_
  rintro e w6 ⟨p2, rfl, h6, k6⟩
  rw [HV.out.2.1.crash] at h6
  have H6 := Lib.hid h6; clear h6 k6
  generalize syncD D1 (gput [] 50 (secStr [7])) = D2 at H6 HV H5
  have hlen2 : D2.las.length = 128 := HV.out.2.1.len
  have HN2 := Lib.hid hlen2; clear hlen2
  go_wp2_with fail
  refine (open_g H6.out (by omega) (by show 128 ≤ D2.las.length; rw [HN2.out]; omega) (by show D2.las.length ≤ 4096; rw [HN2.out]; omega) HV.out.2.2.1).mono ?_
  rintro e w7 ⟨q2, rfl, h7⟩
  have H7 := Lib.hid h7; clear h7
  have HL7 : Hid ((openD (Dk.fresh D2.las)).las.length = 128) := Lib.hid (by rw [openD_len]; exact HN2.out)
  have HR7 := Lib.hid HV.out.2.2.2
  generalize openD (Dk.fresh D2.las) = D3 at H7 HL7 HR7
  go_wp2_with fail
  refine (read_g H7.out 50 _ rfl (by show homeB D3.las.length _ = true; rw [HL7.out]; exact home_in (by omega) (by omega))).mono ?_
  rintro e w8 ⟨v, rfl, hn, h8⟩
  rw [HR7.out] at hn
  obtain ⟨g8, cap8, rfl⟩ := hn.shape
  have c0 := hn.cell0 0 (by omega)
  rw [secStr_at] at c0
  have H8 := Lib.hid h8
  clear hn h8
  go_wp2_with fail
  refine (putout_g H8.out 47 (by show homeB D3.las.length _ = false; rw [HL7.out]; rfl) _).mono ?_
  rintro e w9 ⟨rfl, rfl⟩
  go_wp2_with (go_at_call 15; refine (is_same 1 rfl).mono ?_; rintro e w' ⟨rfl, rfl⟩)
  go_ret
  exact ⟨rfl, H8.out.keep⟩

end Go.Proofs.YtibmillfankjfaaGreatDoor
