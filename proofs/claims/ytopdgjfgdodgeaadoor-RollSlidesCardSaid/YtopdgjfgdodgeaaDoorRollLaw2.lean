/- The walk of RollSlides. -/
import Derived.Test.YtopdgjfgdodgeaaDoorRollLaw
namespace Go.Proofs.YtopdgjfgdodgeaaDoor
open Go.RowKit

set_option maxRecDepth 100000 in
set_option maxHeartbeats 8000000 in
theorem walk_rollSlides (h : Int) (wh : (Lit.int .u32 h).wf = true) (o : Int) (wo : (Lit.int .u8 o).wf = true) (b : Int) (wb : (Lit.int .u8 b).wf = true) (mid : ByteArray) (_hm : mid.size ≤ maxLen) (w : World) (hT : TabAt w) :
    Calls Tryd.prog 4 #[.int .u32 h, .int .u8 o, .int .u8 b, .string mid] w (LawPost w) := by
  have hw := wf_u32 wh
  obtain ⟨H, rfl⟩ := Int.eq_ofNat_of_zero_le hw.1
  by_cases hbig : 2147483647 ≤ H
  · have SA := slide_arg H hbig o b
    have b1 : ((2147483646 : Int) < H) = True := eq_true (by omega)
    clear hbig hw wh wo wb _hm
    go_enter Tryd.func4, Tryd.ntmps4
    go_wp2_with fail
    refine (SA _).mono ?_
    rintro e w' ⟨rfl, rfl⟩
    go_wp2_with fail
    refine (awake_any _ hT).mono ?_
    rintro e w1 ⟨rfl, K1⟩
    go_wp2
    go_ret
    exact ⟨rfl, K1⟩
  · obtain ⟨O, rfl⟩ := byte_of wo
    obtain ⟨I, rfl⟩ := byte_of wb
    have SL := slide_any H (by omega) O I
    have RS := rslide_any H (by omega) O I
    have b1 : ((2147483646 : Int) < H) = False := eq_false (by omega)
    have S2 := fun h hh => slide_any h hh O I
    have hol := O.toNat_lt
    have hil := I.toNat_lt
    have C1 := fun (w' : World) c => conv_bytes (P := Tryd.prog) (w'.alloc (.cells #[.int .u8 (O.toNat : Int)] 5)) 33 9 5 w'.heap.size 1 c [O] rfl Tryd.underlying33 Tryd.underlying5 Tryd.underlying9 (fun j hj => by
      obtain rfl : j = 0 := by simp at hj; omega
      rw [cell_of_row _ _ _ _ _ _ (heap_alloc_last w' _)]; rfl)
    have C2 := fun (w' : World) c => conv_bytes (P := Tryd.prog) (w'.alloc (.cells #[.int .u8 (I.toNat : Int)] 5)) 33 9 5 w'.heap.size 1 c [I] rfl Tryd.underlying33 Tryd.underlying5 Tryd.underlying9 (fun j hj => by
      obtain rfl : j = 0 := by simp at hj; omega
      rw [cell_of_row _ _ _ _ _ _ (heap_alloc_last w' _)]; rfl)
    obtain ⟨r0, hr0⟩ : ∃ r0, r0 = rslide H O I := ⟨_, rfl⟩
    rw [← hr0] at SL RS
    clear hbig hw wh wo wb _hm hr0
    go_enter Tryd.func4, Tryd.ntmps4
    go_wp2_with fail
    refine (SL _ hT).mono ?_
    rintro e w' ⟨rfl, rfl⟩
    go_wp2_with fail
    refine (RS _).mono ?_
    rintro e w' ⟨rfl, rfl⟩
    go_wp2
    clear SL RS b1
    go_loop [3] (fun x => ∃ (k : Nat), k ≤ 15 - mid.size ∧ x = .string (padded mid 109 k)) (fun x => match x with | .string t => 15 - t.size | _ => 0)
    case atStart => exact ⟨0, Nat.zero_le _, by rw [padded_zero]⟩
    case round =>
      obtain ⟨k, hk, rfl⟩ := hrel
      have hz := padded_size mid 109 k
      have hmo := padded_more mid 109 k
      obtain ⟨t, ht⟩ : ∃ t, t = padded mid 109 k := ⟨_, rfl⟩
      rw [← ht] at hz hmo ⊢
      by_cases hlt : (t.size : Int) < 15
      · clear ht
        go_wp2
        go_round
        case rel => exact ⟨k + 1, by omega, rfl⟩
        case measure => simp only [padded_size]; omega
      · have hcut := cut_list t 15 (by omega)
        obtain ⟨m, hm⟩ : ∃ m, t.extract 0 15 = m := ⟨_, rfl⟩
        rw [hm] at hcut
        have hml : m.data.toList.length = 15 := by rw [data_len]; exact hcut.2
        have hts : (15 : Int) ≤ t.size := by omega
        have hts2 : 15 ≤ t.size := by omega
        have D1 := C1 w 1
        have D2 := C2 (w.alloc (.cells #[.int .u8 (O.toNat : Int)] 5)) 1
        have hsz : (w.alloc (.cells #[.int .u8 (O.toNat : Int)] 5)).heap.size = w.heap.size + 1 := by simp
        rw [hsz] at D2
        have K2 : Below w.heap.size w ((w.alloc (.cells #[.int .u8 (O.toNat : Int)] 5)).alloc (.cells #[.int .u8 (I.toNat : Int)] 5)) := ((Below.refl _ _).alloc (Nat.le_refl _) _).alloc (by rw [hsz]; omega) _
        obtain ⟨so, hso⟩ : ∃ so, so = str [O] := ⟨_, rfl⟩
        obtain ⟨si, hsi⟩ : ∃ si, si = str [I] := ⟨_, rfl⟩
        have so1 : so.size = 1 := by rw [hso, str_size]; rfl
        have si1 : si.size = 1 := by rw [hsi, str_size]; rfl
        have m15 : m.size = 15 := hcut.2
        have eF : (so ++ m).data.toList = O :: m.data.toList := by rw [hso]; simp [ByteArray.data_append, str]
        have eN : (m ++ si).data.toList = m.data.toList ++ [I] := by rw [hsi]; simp [ByteArray.data_append, str]
        have hsl := rslide_rsum O I m.data.toList hml
        rw [← eF, ← eN] at hsl
        obtain ⟨F, hF⟩ : ∃ F, so ++ m = F := ⟨_, rfl⟩
        obtain ⟨N, hN⟩ : ∃ N, m ++ si = N := ⟨_, rfl⟩
        have hFs : F.size = 16 := by rw [← hF, ByteArray.size_append]; omega
        have hNs : N.size = 16 := by rw [← hN, ByteArray.size_append]; omega
        rw [hF, hN] at hsl
        have SF := sum_any F (by unfold maxLen; omega)
        have SN := sum_any N (by unfold maxLen; omega)
        have RN := rsum_any N (by unfold maxLen; omega)
        have S3 := S2 _ (rsum_lt F.data.toList)
        rw [hsl] at S3
        obtain ⟨f, hf⟩ : ∃ f, f = rsum F.data.toList := ⟨_, rfl⟩
        obtain ⟨n, hn⟩ : ∃ n, n = rsum N.data.toList := ⟨_, rfl⟩
        rw [← hf] at SF S3
        rw [← hn] at SN RN S3
        rw [← hso] at D1
        rw [← hsi] at D2
        have hTw := hT.later K2
        clear ht hz hmo hk hlt hcut hml C1 C2 S2 hsz eF eN hsl hf hn hso hsi hFs hNs
        go_wp2_with fail
        refine (SF _ hTw).mono ?_
        rintro e w1 ⟨rfl, hb1⟩
        have K3 := Below.then' K2 hb1 K2.size
        clear hb1 K2 D1 D2 hTw
        go_wp2_with fail
        refine (S3 _ (hT.later K3)).mono ?_
        rintro e w' ⟨rfl, rfl⟩
        go_wp2_with fail
        refine (SN _ (hT.later K3)).mono ?_
        rintro e w2 ⟨rfl, hb2⟩
        have K4 := Below.then' K3 hb2 K3.size
        clear hb2 K3
        go_wp2_with fail
        refine (RN _).mono ?_
        rintro e w' ⟨rfl, rfl⟩
        go_wp2_with fail
        refine (awake_any _ (hT.later K4)).mono ?_
        rintro e w3 ⟨rfl, hb3⟩
        go_wp2
        go_ret
        exact ⟨rfl, Below.then' K4 hb3 K4.size⟩

end Go.Proofs.YtopdgjfgdodgeaaDoor
