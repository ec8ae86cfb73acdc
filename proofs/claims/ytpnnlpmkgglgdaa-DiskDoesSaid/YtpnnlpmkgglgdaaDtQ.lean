/- The program's disk: the walk of Spoil. -/
import Derived.Test.YtpnnlpmkgglgdaaDtP
namespace Go.Proofs.Ytpnnlpmkgglgdaa
open Go.RowKit

section
variable {B g b c m : Nat} {s : Dk} {vp : Value} {w : World} (h : DAt B g b c m s vp w)
include h

set_option maxRecDepth 100000 in
set_option maxHeartbeats 4000000 in
theorem dspoil_any (hok : s.ok) (i : Int) (hi : -9223372036854775808 ≤ i ∧ i ≤ 9223372036854775807) (t : ByteArray) (htm : t.size ≤ maxLen) :
    Calls Try.prog 25 #[.pointer (some ⟨g, 0, none⟩), .int .i64 i, .string t] w (DsPost B g b c m (s.spoilS i t.data.toList) vp (.int .i64 (s.spoilE i t.data.toList)) w) := by
  have M := dmade_any h
  have hts := str_len t
  have hte := str_of t
  obtain ⟨y, hy⟩ : ∃ y, y = t.data.toList := ⟨_, rfl⟩
  rw [← hy] at hts hte ⊢
  have hil := hok.image_len
  have hmost := hok.most
  have H := Lib.hid h
  have c1 : w.cell? ⟨g, 1, none⟩ = some (.slice (some ⟨b, 0, none⟩) s.image.length c) := h.cell 1 _ rfl
  obtain ⟨l, hl⟩ : ∃ l, l = s.image := ⟨_, rfl⟩
  have HL := Lib.hid hl
  rw [← hl] at hil c1
  obtain ⟨L, hLL⟩ : ∃ L, L = l.length := ⟨_, rfl⟩
  rw [← hLL] at hil c1
  have HLL := Lib.hid hLL
  have htb : t.size ≤ 9223372036854775807 := by simp only [maxLen] at htm; omega
  have hLb : L ≤ 1048576 := by omega
  have HTS := Lib.hid hts
  have HOFF : Hid (s.off i y ↔ i < 0 ∨ (L : Int) < i + t.size) := Lib.hid (by unfold Dk.off; rw [← hl, ← hLL, hts])
  by_cases ho : s.off i y
  · have e1 : s.spoilE i y = 5 := by unfold Dk.spoilE; rw [if_pos ho]
    have e2 : s.spoilS i y = s := by unfold Dk.spoilS; rw [if_pos ho]
    rw [e1, e2]
    have ho2 := HOFF.out.1 ho
    have fin : Hid (DsPost B g b c m s vp (.int .i64 5) w (.returned (.int .i64 5)) w) := Lib.hid ⟨rfl, vp, H.out, fun k hk => Or.inl hk, but_refl _ _⟩
    clear e1 e2 hy hte hil hmost hl h hok hts htm ho hLL
    by_cases h0 : i < 0
    · go_enter Try.func25, Try.ntmps25
      go_wp2_with fail
      refine M.mono ?_
      rintro e w' ⟨rfl, rfl⟩
      go_wp2
      go_ret
      exact fin.out
    · obtain ⟨d, hd⟩ : ∃ d : Int, d = (L : Int) - t.size := ⟨_, rfl⟩
      have v1 : IntKind.i64.wrap ((L : Int) - t.size) = d := by rw [← hd]; exact IntWalk.i64_in _ (by omega)
      have h2 : i > d := by omega
      clear hd ho2
      go_enter Try.func25, Try.ntmps25
      go_wp2_with fail
      refine M.mono ?_
      rintro e w' ⟨rfl, rfl⟩
      go_wp2
      go_ret
      exact fin.out
  · have e1 : s.spoilE i y = 0 := by unfold Dk.spoilE; rw [if_neg ho]
    have e2 : s.spoilS i y = ⟨secs (xorAt l i.toNat y), s.waits, s.fuse, s.ops, s.down⟩ := by unfold Dk.spoilS; rw [if_neg ho, hl]
    rw [e1, e2]
    have ho2 : ¬ (i < 0 ∨ (L : Int) < i + t.size) := fun x => ho (HOFF.out.2 x)
    obtain ⟨a, rfl⟩ : ∃ a : Nat, i = a := ⟨i.toNat, by omega⟩
    rw [Int.toNat_natCast]
    have h0 : ¬ (a : Int) < 0 := by omega
    obtain ⟨d, hd⟩ : ∃ d : Int, d = (L : Int) - t.size := ⟨_, rfl⟩
    have v1 : IntKind.i64.wrap ((L : Int) - t.size) = d := by rw [← hd]; exact IntWalk.i64_in _ (by omega)
    have h2 : ¬ (a : Int) > d := by omega
    have hat : a + t.size ≤ L := by omega
    have D0 : Hid (BytesAt b (xorK l a y 0) w) := Lib.hid (by rw [xorK_zero, hl]; exact h.dur)
    have B0 : Hid (ButBy (fun j => j = b) w w) := Lib.hid (but_refl _ w)
    have h128 : Hid (l.length % 128 = 0) := Lib.hid (by rw [← hLL, hil]; omega)
    have HTE := Lib.hid hte
    clear e1 e2 hy hil hl h hok hts htm ho ho2 hd HOFF hi hte hLL
    go_enter Try.func25, Try.ntmps25
    go_wp2_with fail
    refine M.mono ?_
    rintro e w' ⟨rfl, rfl⟩
    go_wp2
    go_loopg [27] t.size (fun gh s27 wx => ∃ k : Nat, k + gh = t.size ∧ s27 = .int .i64 k ∧ Hid (BytesAt b (xorK l a y k) wx) ∧ Hid (ButBy (fun j => j = b) w wx))
    case atStart => exact ⟨0, by omega, rfl, D0, B0⟩
    case round =>
      clear D0 B0 M
      obtain ⟨k, hk, rfl, HR, HB⟩ := hrel
      obtain ⟨k1, hk1⟩ : ∃ k1, k1 = k + 1 := ⟨_, rfl⟩
      have v3 : IntKind.i64.wrap ((k : Int) + 1) = (k1 : Int) := by rw [show (k : Int) + 1 = (k1 : Int) by omega]; exact IntWalk.i64_in _ (by omega)
      by_cases hkm : k < t.size
      · have hki : (k : Int) < t.size := by omega
        have bk : decide ((k : Int) < (t.size : Int)) = true := by simpa using hki
        obtain ⟨j, hj⟩ : ∃ j, j = a + k := ⟨_, rfl⟩
        have v4 : IntKind.i64.wrap ((a : Int) + (k : Int)) = (j : Int) := by rw [show (a : Int) + (k : Int) = (j : Int) by omega]; exact IntWalk.i64_in _ (by omega)
        have hjl : j < (xorK l a y k).length := by rw [xorK_len, ← HLL.out]; omega
        have hjL : j < L := by rw [xorK_len, ← HLL.out] at hjl; exact hjl
        have d1 := HR.out.cell j hjl
        have f1 := HR.out.froz j hjl
        have hxa := xorK_at l a y k (by rw [← HLL.out]; omega)
        have hxn := xorK_next l a y k (by rw [← HLL.out]; omega)
        rw [← hj] at hxa hxn
        rw [List.getD_eq_getElem?_getD, List.getElem?_eq_getElem hjl, Option.getD_some] at hxa
        rw [hxa] at d1
        have cg : wr.cell? ⟨g, 1, none⟩ = some (.slice (some ⟨b, 0, none⟩) L c) := by
          rw [World.cell?_of_block (a := ⟨g, 1, none⟩) (HB.out.block g (H.out.lt g (Or.inl rfl)).2 (fun x => H.out.apart.1 x.symm))]; exact c1
        obtain ⟨p, hp⟩ : ∃ p : UInt8, p = l.getD j 0 := ⟨_, rfl⟩
        rw [← hp] at d1 hxn
        obtain ⟨q, hq⟩ : ∃ q : UInt8, q = y.getD k 0 := ⟨_, rfl⟩
        rw [← hq] at hxn
        have hqt : t[k] = q := by
          have hkd : k < t.data.toList.length := by rw [str_len]; exact hkm
          have hd : t.data.toList = y := by rw [← HTE.out]; rfl
          rw [hq, List.getD_eq_getElem?_getD, ← hd, List.getElem?_eq_getElem hkd]
          rfl
        have hq1 : t[k].toNat = q.toNat := congrArg UInt8.toNat hqt
        have hq2 : (t.data[k]'hkm).toNat = q.toNat := hq1
        have hpl := p.toNat_lt
        have hql := q.toNat_lt
        have e4 := u8_xor_nat p.toNat q.toNat (by omega) (by omega)
        obtain ⟨x, hx⟩ : ∃ x : UInt8, x = p ^^^ q := ⟨_, rfl⟩
        have hx2 : p.toNat ^^^ q.toNat = x.toNat := by rw [hx, UInt8.toNat_xor]
        rw [hx2] at e4
        have hset := (HR.out.stay (w' := wr.drew) rfl).set j hjl x
        rw [hx, hxn, ← hk1, ← hx] at hset
        have HSET : Hid (BytesAt b (xorK l a y k1) (wr.drew.setCell ⟨b, j, none⟩ (.int .u8 (x.toNat : Int)))) := Lib.hid hset
        have HB2 : Hid (ButBy (fun j => j = b) w (wr.drew.setCell ⟨b, j, none⟩ (.int .u8 (x.toNat : Int)))) := Lib.hid ((HB.out.trans (ButBy.below (Below.drew (Below.refl _ _)))).setCell b j _ rfl)
        have hj0 : (0 : Int) ≤ j := by omega
        have hji : (j : Int) < L := by omega
        have d1' : wr.cell? ⟨b, j, none⟩ = some (.int .u8 (p.toNat : Int)) := d1
        obtain ⟨pn, hpn⟩ : ∃ pn, pn = p.toNat := ⟨_, rfl⟩
        obtain ⟨qn, hqn⟩ : ∃ qn, qn = q.toNat := ⟨_, rfl⟩
        rw [← hpn] at d1' e4
        rw [← hqn] at hq1 hq2 e4
        clear hset hx hx2 hqt hq hp hxa hxn hj hpl hql hpn hqn d1 hjl hjL
        go_wp2
        go_region
        go_wp2
        go_roundg (t.size - k1)
        case measure => omega
        case rel => exact ⟨k1, by omega, by first | rfl | (congr 1; omega), HSET, HB2⟩
      · have hke : k = t.size := by omega
        have hki : ¬ (k : Int) < t.size := by omega
        have bk : decide ((k : Int) < (t.size : Int)) = false := by simpa using hki
        have HR2 : BytesAt b (xorAt l a y) wr := by have h := HR.out; rw [hke, ← HTS.out, xorK_all] at h; exact h
        have hxl : (xorAt l a y).length = l.length := xorAt_len l a y
        have himg : (⟨secs (xorAt l a y), s.waits, s.fuse, s.ops, s.down⟩ : Dk).image = xorAt l a y := secs_join _ (by rw [hxl]; exact h128.out)
        have fin : DsPost B g b c m ⟨secs (xorAt l a y), s.waits, s.fuse, s.ops, s.down⟩ vp (.int .i64 0) w (.returned (.int .i64 0)) wr := by
          have ap := H.out.apart
          have hbb : ∀ k, k < w.heap.size → k ≠ b → wr.heap[k]? = w.heap[k]? := fun k hk hn => HB.out.block k hk hn
          have hlen : (⟨secs (xorAt l a y), s.waits, s.fuse, s.ops, s.down⟩ : Dk).image.length = s.image.length := by rw [himg, hxl, HL.out]
          refine ⟨rfl, vp, ⟨H.out.base, ?_, H.out.hb, by rw [hlen]; exact H.out.cap, by rw [himg]; exact HR2, own_stay H.out.pend (fun k e => hbb k (H.out.pend.lt k e).2 (fun x => ap.2.2.2.2.1 (by rw [e, x]))), H.out.hm, H.out.map.stay (hbb m H.out.map.lt ap.2.2.1)⟩, fun k e => Or.inl e, HB.out.mono (fun j hj => Or.inr (Or.inl hj))⟩
          rw [hbb g (H.out.lt g (Or.inl rfl)).2 (fun x => ap.1 x.symm), H.out.row, hlen]
          rfl
        have FIN := Lib.hid fin
        clear fin HR2 hxl himg hke HR HB
        go_wp2
        go_ret
        exact FIN.out
end

end Go.Proofs.Ytpnnlpmkgglgdaa
