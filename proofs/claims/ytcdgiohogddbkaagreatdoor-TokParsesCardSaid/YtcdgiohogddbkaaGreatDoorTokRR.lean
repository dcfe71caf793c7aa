/- The reference's tokens: a round of the raw text's loop. -/
import Derived.Test.YtcdgiohogddbkaaGreatDoorP23
namespace Go.Proofs.YtcdgiohogddbkaaGreatDoor
open Go.RowKit

noncomputable def rawBody : Code := (loopOf tokBody).getD .skip

set_option maxHeartbeats 16000000 in
set_option maxRecDepth 1000000 in
theorem raw_round (s : ByteArray) (hs : s.size ≤ 600) (p q : Nat) (nm : List UInt8) (av : Value) (sl : Bool) (w8 wr : World) (bs bn : Nat) (hS : w8.heap[bs]? = some (.cells #[.string s] 9 (0, 0))) (hN : w8.heap[bn]? = some (tagBlock nm av sl)) (hnl : nm.length ≤ 8)
    (K : Act → World → Prop) (Q : Exit → Act → World → Prop)
    (x0 x2 x3 x4 x5 x6 x8 x9 x10 x11 x13 x14 x17 x18 x19 x20 x21 x22 x23 x24 x25 x26 x27 x28 x29 x30 x31 x32 x33 x34 x35 x36 x37 x38 x39 x40 x41 x42 x43 x44 x45 x46 x47 x48 x49 x50 x51 x52
    x53 x54 x55 x56 x57 x58 x59 x60 x61 x62 x63 x64 x65 x66 x67 x68 x69 x70 x71 x72 x73 x74 x75 x76 x77 x78 x79 x80 x81 x82 x83 x84 x85 x86 x87 x88 x89 x90 x91 x92 x93 x94 x95 x96 x97 x98
    x99 x100 x101 x102 x103 x104 x105 x106 x107 x108 x109 x110 x111 x112 x113 x114 x115 x116 x117 x118 x119 x120 x121 x122 x123 x124 x125 x126 x127 x128 x129 x130 x131 x132 x133 x134 x135
    x136 x137 x138 x139 x140 x141 x142 x143 x144 x145 x146 x147 x148 x149 x150 x151 x152 x153 x154 x155 x156 x157 x158 x159 x160 x161 x162 x163 x164 x165 x166 x167 x168 x169 x170 x171 x172
    x173 x174 x175 x176 x177 x243 x244 x245 x246 x247 x248 x249 x250 x251 x252 x253 x254 x255 x256 x257 x258 : Value)
    (y16 y178 y179 y180 y181 y182 y183 y184 y185 y186 y187 y188 y189 y190 y191 y192 y193 y194 y195 y196 y197 y198 y199 y200 y201 y202 y203 y204 y205 y206 y207 y208 y209 y210 y211 y212 y213
    y214 y215 y216 y217 y218 y219 y220 y221 y222 y223 y224 y225 y226 y227 y228 y229 y230 y231 y232 y233 y234 y235 y236 y237 y238 y239 y240 y241 y242 : Value)
    (hpq : p ≤ q) (hqs : q ≤ s.size) (hb : Below w8.heap.size w8 wr) (hall : Hid (∀ i, i < q - p → U.rawEnd nm ((s.data.toList.drop p).drop i) = false))
    (hK : ∀ (q : Nat) (y16 y178 y179 y180 y181 y182 y183 y184 y185 y186 y187 y188 y189 y190 y191 y192 y193 y194 y195 y196 y197 y198 y199 y200 y201 y202 y203 y204 y205 y206 y207 y208 y209 y210 y211 y212 y213
    y214 y215 y216 y217 y218 y219 y220 y221 y222 y223 y224 y225 y226 y227 y228 y229 y230 y231 y232 y233 y234 y235 y236 y237 y238 y239 y240 y241 y242 : Value) (w' : World), p ≤ q → q ≤ s.size → Below w8.heap.size w8 w' → U.rawText nm (s.data.toList.drop p) = ((s.data.toList.drop p).take (q - p), (s.data.toList.drop p).drop (q - p)) → K ⟨#[x0, .pointer (some ⟨bs, 0, none⟩), x2, x3, x4, x5, x6, .int .i64 (q : Nat), x8, x9, x10, x11, .pointer (some ⟨bn, 0, none⟩), x13, x14, .string ⟨((s.data.toList.drop p).take (q -
      p)).toArray⟩, y16, x17, x18, x19, x20, x21, x22, x23, x24, x25, x26, x27, x28, x29, x30, x31, x32, x33, x34, x35, x36, x37, x38, x39, x40, x41, x42, x43, x44, x45, x46, x47, x48, x49,
      x50, x51, x52, x53, x54, x55, x56, x57, x58, x59, x60, x61, x62, x63, x64, x65, x66, x67, x68, x69, x70, x71, x72, x73, x74, x75, x76, x77, x78, x79, x80, x81, x82, x83, x84, x85, x86,
      x87, x88, x89, x90, x91, x92, x93, x94, x95, x96, x97, x98, x99, x100, x101, x102, x103, x104, x105, x106, x107, x108, x109, x110, x111, x112, x113, x114, x115, x116, x117, x118, x119,
      x120, x121, x122, x123, x124, x125, x126, x127, x128, x129, x130, x131, x132, x133, x134, x135, x136, x137, x138, x139, x140, x141, x142, x143, x144, x145, x146, x147, x148, x149,
      x150, x151, x152, x153, x154, x155, x156, x157, x158, x159, x160, x161, x162, x163, x164, x165, x166, x167, x168, x169, x170, x171, x172, x173, x174, x175, x176, x177, y178, y179,
      y180, y181, y182, y183, y184, y185, y186, y187, y188, y189, y190, y191, y192, y193, y194, y195, y196, y197, y198, y199, y200, y201, y202, y203, y204, y205, y206, y207, y208, y209,
      y210, y211, y212, y213, y214, y215, y216, y217, y218, y219, y220, y221, y222, y223, y224, y225, y226, y227, y228, y229, y230, y231, y232, y233, y234, y235, y236, y237, y238, y239,
      y240, y241, y242, x243, x244, x245, x246, x247, x248, x249, x250, x251, x252, x253, x254, x255, x256, x257, x258], []⟩ w') :
    Code.wp Tryz.prog rawBody (Exit.then (fun a' w' => (∃ y7 y15 y16 y178 y179 y180 y181 y182 y183 y184 y185 y186 y187 y188 y189 y190 y191 y192 y193 y194 y195 y196 y197 y198 y199 y200 y201 y202 y203 y204 y205 y206 y207 y208 y209 y210 y211 y212
  y213 y214 y215 y216 y217 y218 y219 y220 y221 y222 y223 y224 y225 y226 y227 y228 y229 y230 y231 y232 y233 y234 y235 y236 y237 y238 y239 y240 y241 y242 : Value,
      (∃ q : Nat, p ≤ q ∧ q ≤ s.size ∧ y7 = .int .i64 q ∧ y15 = .string ⟨((s.data.toList.drop p).take (q - p)).toArray⟩ ∧ Below w8.heap.size w8 w' ∧ Hid (∀ i, i < q - p → U.rawEnd nm ((s.data.toList.drop p).drop i) = false)) ∧ a' = ⟨#[x0, .pointer (some ⟨bs, 0, none⟩), x2, x3, x4, x5, x6, y7, x8, x9, x10, x11, .pointer (some ⟨bn, 0, none⟩), x13, x14, y15, y16, x17, x18, x19, x20, x21, x22, x23, x24, x25, x26, x27,
      x28, x29, x30, x31, x32, x33, x34, x35, x36, x37, x38, x39, x40, x41, x42, x43, x44, x45, x46, x47, x48, x49, x50, x51, x52, x53, x54, x55, x56, x57, x58, x59, x60, x61, x62, x63, x64,
      x65, x66, x67, x68, x69, x70, x71, x72, x73, x74, x75, x76, x77, x78, x79, x80, x81, x82, x83, x84, x85, x86, x87, x88, x89, x90, x91, x92, x93, x94, x95, x96, x97, x98, x99, x100,
      x101, x102, x103, x104, x105, x106, x107, x108, x109, x110, x111, x112, x113, x114, x115, x116, x117, x118, x119, x120, x121, x122, x123, x124, x125, x126, x127, x128, x129, x130,
      x131, x132, x133, x134, x135, x136, x137, x138, x139, x140, x141, x142, x143, x144, x145, x146, x147, x148, x149, x150, x151, x152, x153, x154, x155, x156, x157, x158, x159, x160,
      x161, x162, x163, x164, x165, x166, x167, x168, x169, x170, x171, x172, x173, x174, x175, x176, x177, y178, y179, y180, y181, y182, y183, y184, y185, y186, y187, y188, y189, y190,
      y191, y192, y193, y194, y195, y196, y197, y198, y199, y200, y201, y202, y203, y204, y205, y206, y207, y208, y209, y210, y211, y212, y213, y214, y215, y216, y217, y218, y219, y220,
      y221, y222, y223, y224, y225, y226, y227, y228, y229, y230, y231, y232, y233, y234, y235, y236, y237, y238, y239, y240, y241, y242, x243, x244, x245, x246, x247, x248, x249, x250,
      x251, x252, x253, x254, x255, x256, x257, x258], []⟩) ∧ s.size - (intOf (a'.tmps.getD 7 undef)).toNat < s.size - (intOf (#[x0, .pointer (some ⟨bs, 0, none⟩), x2, x3, x4, x5, x6, .int .i64 (q : Nat), x8, x9, x10, x11, .pointer (some ⟨bn, 0, none⟩), x13, x14, .string ⟨((s.data.toList.drop p).take (q -
      p)).toArray⟩, y16, x17, x18, x19, x20, x21, x22, x23, x24, x25, x26, x27, x28, x29, x30, x31, x32, x33, x34, x35, x36, x37, x38, x39, x40, x41, x42, x43, x44, x45, x46, x47, x48, x49,
      x50, x51, x52, x53, x54, x55, x56, x57, x58, x59, x60, x61, x62, x63, x64, x65, x66, x67, x68, x69, x70, x71, x72, x73, x74, x75, x76, x77, x78, x79, x80, x81, x82, x83, x84, x85, x86,
      x87, x88, x89, x90, x91, x92, x93, x94, x95, x96, x97, x98, x99, x100, x101, x102, x103, x104, x105, x106, x107, x108, x109, x110, x111, x112, x113, x114, x115, x116, x117, x118, x119,
      x120, x121, x122, x123, x124, x125, x126, x127, x128, x129, x130, x131, x132, x133, x134, x135, x136, x137, x138, x139, x140, x141, x142, x143, x144, x145, x146, x147, x148, x149,
      x150, x151, x152, x153, x154, x155, x156, x157, x158, x159, x160, x161, x162, x163, x164, x165, x166, x167, x168, x169, x170, x171, x172, x173, x174, x175, x176, x177, y178, y179,
      y180, y181, y182, y183, y184, y185, y186, y187, y188, y189, y190, y191, y192, y193, y194, y195, y196, y197, y198, y199, y200, y201, y202, y203, y204, y205, y206, y207, y208, y209,
      y210, y211, y212, y213, y214, y215, y216, y217, y218, y219, y220, y221, y222, y223, y224, y225, y226, y227, y228, y229, y230, y231, y232, y233, y234, y235, y236, y237, y238, y239,
      y240, y241, y242, x243, x244, x245, x246, x247, x248, x249, x250, x251, x252, x253, x254, x255, x256, x257, x258].getD 7 undef)).toNat)
      (Exit.inBlock 3 (Exit.then K Q))) ⟨#[x0, .pointer (some ⟨bs, 0, none⟩), x2, x3, x4, x5, x6, .int .i64 (q : Nat), x8, x9, x10, x11, .pointer (some ⟨bn, 0, none⟩), x13, x14, .string ⟨((s.data.toList.drop p).take (q -
      p)).toArray⟩, y16, x17, x18, x19, x20, x21, x22, x23, x24, x25, x26, x27, x28, x29, x30, x31, x32, x33, x34, x35, x36, x37, x38, x39, x40, x41, x42, x43, x44, x45, x46, x47, x48, x49,
      x50, x51, x52, x53, x54, x55, x56, x57, x58, x59, x60, x61, x62, x63, x64, x65, x66, x67, x68, x69, x70, x71, x72, x73, x74, x75, x76, x77, x78, x79, x80, x81, x82, x83, x84, x85, x86,
      x87, x88, x89, x90, x91, x92, x93, x94, x95, x96, x97, x98, x99, x100, x101, x102, x103, x104, x105, x106, x107, x108, x109, x110, x111, x112, x113, x114, x115, x116, x117, x118, x119,
      x120, x121, x122, x123, x124, x125, x126, x127, x128, x129, x130, x131, x132, x133, x134, x135, x136, x137, x138, x139, x140, x141, x142, x143, x144, x145, x146, x147, x148, x149,
      x150, x151, x152, x153, x154, x155, x156, x157, x158, x159, x160, x161, x162, x163, x164, x165, x166, x167, x168, x169, x170, x171, x172, x173, x174, x175, x176, x177, y178, y179,
      y180, y181, y182, y183, y184, y185, y186, y187, y188, y189, y190, y191, y192, y193, y194, y195, y196, y197, y198, y199, y200, y201, y202, y203, y204, y205, y206, y207, y208, y209,
      y210, y211, y212, y213, y214, y215, y216, y217, y218, y219, y220, y221, y222, y223, y224, y225, y226, y227, y228, y229, y230, y231, y232, y233, y234, y235, y236, y237, y238, y239,
      y240, y241, y242, x243, x244, x245, x246, x247, x248, x249, x250, x251, x252, x253, x254, x255, x256, x257, x258], []⟩ wr := by
  conv => arg 2; whnf
  have hnz := size_of_mk nm
  have hB1 := (hb.block _ (Array.getElem?_eq_some_iff.1 hN).1).trans hN
  have hS1 := (hb.block _ (Array.getElem?_eq_some_iff.1 hS).1).trans hS
  have c0 := (Lib.cell_of_heap hS1 0).trans (show _ = some (Value.string s) from rfl)
  have m1 := (Lib.cell_of_heap hB1 1).trans (show _ = some (Value.string ⟨nm.toArray⟩) from rfl)
  by_cases hq : q < s.size
  · have hi0 : (0 : Int) ≤ (q : Int) := Int.natCast_nonneg _
    have hi1 : (q : Int) < (s.size : Int) := by omega
    go_upto_region 39 with fail
    go_cut [233] from 178 to 242 (fun c233 wx => c233 = .bool (U.rawEnd nm (s.data.toList.drop q)) ∧ Below wr.heap.size wr wx)
    case first =>
      clear hall hK
      by_cases d1 : q + 2 + nm.length < s.size
      · have j1 : (q : Int) + 2 + (nm.length : Int) < (s.size : Int) := by omega
        have j2 : (q : Int) + 1 < (s.size : Int) := by omega
        have HE := Lib.hid (rawEnd_at d1)
        by_cases x60 : ((s[q]'hq).toNat : Int) = 60
        · have y60 := beq_yes x60
          by_cases x47 : ((s[q + 1]'(by omega)).toNat : Int) = 47
          · have y47 := beq_yes x47
            have h9 : s[q]'hq = 60 := (byte_eq (k := 60) (by decide)).1 (by omega)
            have h8 : s[q + 1]'(by omega) = 47 := (byte_eq (k := 47) (by decide)).1 (by omega)
            have hlw := lowered_walk (s.extract (q + 2) (q + 2 + nm.length))
            have hx9 : (s.extract (q + 2) (q + 2 + nm.length)).size ≤ 1099511627776 := by rw [ByteArray.size_extract]; omega
            have i1 : (0 : Int) ≤ (q : Int) + 2 := by omega
            have i2 : (q : Int) + 2 ≤ (q : Int) + 2 + (nm.length : Int) := by omega
            have i3 : (q : Int) + 2 + (nm.length : Int) ≤ (s.size : Int) := by omega
            have hbn := (Array.getElem?_eq_some_iff.1 hB1).1
            have hbs := (Array.getElem?_eq_some_iff.1 hS1).1
            obtain ⟨X, hX⟩ : ∃ X, X = U.low (s.extract (q + 2) (q + 2 + nm.length)).data.toList := ⟨_, rfl⟩
            rw [← hX] at hlw
            have he := HE.out
            rw [← hX, h9, h8] at he
            clear x60 x47 hX HE h9 h8
            by_cases hn : X = nm
            · subst hn
              obtain ⟨d, ed⟩ : ∃ d, s[q + 2 + X.length]'d1 = d := ⟨_, rfl⟩
              rw [ed] at he
              have hsw := is_space d
              cases hsp : U.isSp d with
              | true =>
                rw [hsp] at hsw he
                have HSP := Lib.hid hsw
                have E0 : Hid (U.rawEnd X (s.data.toList.drop q) = true) := by
                  show _ = _
                  rw [he]
                  simp
                clear hsw he hsp
                have o1 : (0 : Int) ≤ (q : Int) + 1 := by omega
                have o2 : (0 : Int) ≤ (q : Int) + 2 := by omega
                have o3 : (0 : Int) ≤ (q : Int) + 2 + (X.length : Int) := by omega
                have p1 : ((q : Int) + 1).toNat = q + 1 := by omega
                have p2 : ((q : Int) + 2).toNat = q + 2 := by omega
                have p3 : ((q : Int) + 2 + (X.length : Int)).toNat = q + 2 + X.length := by omega
                have v1 : IntKind.i64.wrap ((q : Int) + 1) = (q : Int) + 1 := wrap_small _ (by omega) (by omega)
                have v2' : IntKind.i64.wrap ((q : Int) + 2) = (q : Int) + 2 := wrap_small _ (by omega) (by omega)
                obtain ⟨Y, F, hF1, hF2, hF3, hF4, hF5⟩ := held_class c0 m1 hbs hbn
                have hY : Nonempty Y := hF4.elim fun x _ => ⟨x⟩
                refine wp_region_calm Y F (by kernel_rfl) (by kernel_rfl) hF4 ?_
                repeat (go_big_quiet_step (first | (go_at_call 29; refine (hlw _ hx9).mono ?_; rintro e w9 ⟨rfl, b9⟩; exact ⟨rfl, hF5 _ _ b9⟩) | (go_at_call 30; refine (HSP.out _).mono ?_; rintro e w10 ⟨rfl, rfl⟩; exact ⟨rfl, _, rfl⟩)))
                refine wpQuiet_nil ?_
                rintro _ ⟨x9, rfl⟩
                go_wp2
                go_meet
                exact ⟨congrArg Value.bool E0.out.symm, hF3 x9⟩
              | false =>
                rw [hsp] at hsw he
                have HSP := Lib.hid hsw
                clear hsw hsp
                by_cases z47 : (d.toNat : Int) = 47
                · skip
                  have y2 := beq_yes z47
                  have E0 : Hid (U.rawEnd X (s.data.toList.drop q) = true) := by
                    show _ = _
                    rw [he, show d = 47 from (byte_eq (k := 47) (by decide)).1 (by omega)]
                    simp
                  clear he z47
                  have o1 : (0 : Int) ≤ (q : Int) + 1 := by omega
                  have o2 : (0 : Int) ≤ (q : Int) + 2 := by omega
                  have o3 : (0 : Int) ≤ (q : Int) + 2 + (X.length : Int) := by omega
                  have p1 : ((q : Int) + 1).toNat = q + 1 := by omega
                  have p2 : ((q : Int) + 2).toNat = q + 2 := by omega
                  have p3 : ((q : Int) + 2 + (X.length : Int)).toNat = q + 2 + X.length := by omega
                  have v1 : IntKind.i64.wrap ((q : Int) + 1) = (q : Int) + 1 := wrap_small _ (by omega) (by omega)
                  have v2' : IntKind.i64.wrap ((q : Int) + 2) = (q : Int) + 2 := wrap_small _ (by omega) (by omega)
                  obtain ⟨Y, F, hF1, hF2, hF3, hF4, hF5⟩ := held_class c0 m1 hbs hbn
                  have hY : Nonempty Y := hF4.elim fun x _ => ⟨x⟩
                  refine wp_region_calm Y F (by kernel_rfl) (by kernel_rfl) hF4 ?_
                  repeat (go_big_quiet_step (first | (go_at_call 29; refine (hlw _ hx9).mono ?_; rintro e w9 ⟨rfl, b9⟩; exact ⟨rfl, hF5 _ _ b9⟩) | (go_at_call 30; refine (HSP.out _).mono ?_; rintro e w10 ⟨rfl, rfl⟩; exact ⟨rfl, _, rfl⟩)))
                  refine wpQuiet_nil ?_
                  rintro _ ⟨x9, rfl⟩
                  go_wp2
                  go_meet
                  exact ⟨congrArg Value.bool E0.out.symm, hF3 x9⟩
                · have y2 := beq_no z47
                  by_cases z62 : (d.toNat : Int) = 62
                  · skip
                    have y3 := beq_yes z62
                    have E0 : Hid (U.rawEnd X (s.data.toList.drop q) = true) := by
                      show _ = _
                      rw [he, show d = 62 from (byte_eq (k := 62) (by decide)).1 (by omega)]
                      simp
                    clear he z47 z62
                    have o1 : (0 : Int) ≤ (q : Int) + 1 := by omega
                    have o2 : (0 : Int) ≤ (q : Int) + 2 := by omega
                    have o3 : (0 : Int) ≤ (q : Int) + 2 + (X.length : Int) := by omega
                    have p1 : ((q : Int) + 1).toNat = q + 1 := by omega
                    have p2 : ((q : Int) + 2).toNat = q + 2 := by omega
                    have p3 : ((q : Int) + 2 + (X.length : Int)).toNat = q + 2 + X.length := by omega
                    have v1 : IntKind.i64.wrap ((q : Int) + 1) = (q : Int) + 1 := wrap_small _ (by omega) (by omega)
                    have v2' : IntKind.i64.wrap ((q : Int) + 2) = (q : Int) + 2 := wrap_small _ (by omega) (by omega)
                    obtain ⟨Y, F, hF1, hF2, hF3, hF4, hF5⟩ := held_class c0 m1 hbs hbn
                    have hY : Nonempty Y := hF4.elim fun x _ => ⟨x⟩
                    refine wp_region_calm Y F (by kernel_rfl) (by kernel_rfl) hF4 ?_
                    repeat (go_big_quiet_step (first | (go_at_call 29; refine (hlw _ hx9).mono ?_; rintro e w9 ⟨rfl, b9⟩; exact ⟨rfl, hF5 _ _ b9⟩) | (go_at_call 30; refine (HSP.out _).mono ?_; rintro e w10 ⟨rfl, rfl⟩; exact ⟨rfl, _, rfl⟩)))
                    refine wpQuiet_nil ?_
                    rintro _ ⟨x9, rfl⟩
                    go_wp2
                    go_meet
                    exact ⟨congrArg Value.bool E0.out.symm, hF3 x9⟩
                  · skip
                    have y3 := beq_no z62
                    have E0 : Hid (U.rawEnd X (s.data.toList.drop q) = false) := by
                      show _ = _
                      rw [he, show (d == 47) = false from beq_eq_false_iff_ne.2 (fun e => z47 (by rw [e]; rfl)), show (d == 62) = false from beq_eq_false_iff_ne.2 (fun e => z62 (by rw [e]; rfl))]
                      simp
                    clear he z47 z62
                    have o1 : (0 : Int) ≤ (q : Int) + 1 := by omega
                    have o2 : (0 : Int) ≤ (q : Int) + 2 := by omega
                    have o3 : (0 : Int) ≤ (q : Int) + 2 + (X.length : Int) := by omega
                    have p1 : ((q : Int) + 1).toNat = q + 1 := by omega
                    have p2 : ((q : Int) + 2).toNat = q + 2 := by omega
                    have p3 : ((q : Int) + 2 + (X.length : Int)).toNat = q + 2 + X.length := by omega
                    have v1 : IntKind.i64.wrap ((q : Int) + 1) = (q : Int) + 1 := wrap_small _ (by omega) (by omega)
                    have v2' : IntKind.i64.wrap ((q : Int) + 2) = (q : Int) + 2 := wrap_small _ (by omega) (by omega)
                    obtain ⟨Y, F, hF1, hF2, hF3, hF4, hF5⟩ := held_class c0 m1 hbs hbn
                    have hY : Nonempty Y := hF4.elim fun x _ => ⟨x⟩
                    refine wp_region_calm Y F (by kernel_rfl) (by kernel_rfl) hF4 ?_
                    repeat (go_big_quiet_step (first | (go_at_call 29; refine (hlw _ hx9).mono ?_; rintro e w9 ⟨rfl, b9⟩; exact ⟨rfl, hF5 _ _ b9⟩) | (go_at_call 30; refine (HSP.out _).mono ?_; rintro e w10 ⟨rfl, rfl⟩; exact ⟨rfl, _, rfl⟩)))
                    refine wpQuiet_nil ?_
                    rintro _ ⟨x9, rfl⟩
                    go_wp2
                    go_meet
                    exact ⟨congrArg Value.bool E0.out.symm, hF3 x9⟩
            · skip
              have hn2 := beq_eq_false_iff_ne.2 hn
              have E0 : Hid (U.rawEnd nm (s.data.toList.drop q) = false) := by
                show _ = _
                rw [he, hn2]
                simp
              clear he
              have o1 : (0 : Int) ≤ (q : Int) + 1 := by omega
              have o2 : (0 : Int) ≤ (q : Int) + 2 := by omega
              have o3 : (0 : Int) ≤ (q : Int) + 2 + (nm.length : Int) := by omega
              have p1 : ((q : Int) + 1).toNat = q + 1 := by omega
              have p2 : ((q : Int) + 2).toNat = q + 2 := by omega
              have p3 : ((q : Int) + 2 + (nm.length : Int)).toNat = q + 2 + nm.length := by omega
              have v1 : IntKind.i64.wrap ((q : Int) + 1) = (q : Int) + 1 := wrap_small _ (by omega) (by omega)
              have v2' : IntKind.i64.wrap ((q : Int) + 2) = (q : Int) + 2 := wrap_small _ (by omega) (by omega)
              obtain ⟨Y, F, hF1, hF2, hF3, hF4, hF5⟩ := held_class c0 m1 hbs hbn
              have hY : Nonempty Y := hF4.elim fun x _ => ⟨x⟩
              refine wp_region_calm Y F (by kernel_rfl) (by kernel_rfl) hF4 ?_
              repeat (go_big_quiet_step (first | (go_at_call 29; refine (hlw _ hx9).mono ?_; rintro e w9 ⟨rfl, b9⟩; exact ⟨rfl, hF5 _ _ b9⟩)))
              refine wpQuiet_nil ?_
              rintro _ ⟨x9, rfl⟩
              go_wp2
              go_meet
              exact ⟨congrArg Value.bool E0.out.symm, hF3 x9⟩
          · have y47 := beq_no x47
            have e0 : U.rawEnd nm (s.data.toList.drop q) = false := by
              rw [HE.out, show (s[q + 1]'(by omega) == 47) = false from beq_eq_false_iff_ne.2 (fun e => x47 (by rw [e]; rfl))]
              simp
            have E0 := Lib.hid e0
            clear e0 x47 x60
            have o1 : (0 : Int) ≤ (q : Int) + 1 := by omega
            have o2 : (0 : Int) ≤ (q : Int) + 2 := by omega
            have o3 : (0 : Int) ≤ (q : Int) + 2 + (nm.length : Int) := by omega
            have p1 : ((q : Int) + 1).toNat = q + 1 := by omega
            have p2 : ((q : Int) + 2).toNat = q + 2 := by omega
            have p3 : ((q : Int) + 2 + (nm.length : Int)).toNat = q + 2 + nm.length := by omega
            have v1 : IntKind.i64.wrap ((q : Int) + 1) = (q : Int) + 1 := wrap_small _ (by omega) (by omega)
            have v2' : IntKind.i64.wrap ((q : Int) + 2) = (q : Int) + 2 := wrap_small _ (by omega) (by omega)
            go_quiet (fail)
            go_wp2
            go_meet
            exact ⟨congrArg Value.bool E0.out.symm, below_drewN (Below.refl _ _) _⟩
        · have y60 := beq_no x60
          have e0 : U.rawEnd nm (s.data.toList.drop q) = false := by
            rw [HE.out, show (s[q]'hq == 60) = false from beq_eq_false_iff_ne.2 (fun e => x60 (by rw [e]; rfl))]
            simp
          have E0 := Lib.hid e0
          clear e0 x60
          have o1 : (0 : Int) ≤ (q : Int) + 1 := by omega
          have o2 : (0 : Int) ≤ (q : Int) + 2 := by omega
          have o3 : (0 : Int) ≤ (q : Int) + 2 + (nm.length : Int) := by omega
          have p1 : ((q : Int) + 1).toNat = q + 1 := by omega
          have p2 : ((q : Int) + 2).toNat = q + 2 := by omega
          have p3 : ((q : Int) + 2 + (nm.length : Int)).toNat = q + 2 + nm.length := by omega
          have v1 : IntKind.i64.wrap ((q : Int) + 1) = (q : Int) + 1 := wrap_small _ (by omega) (by omega)
          have v2' : IntKind.i64.wrap ((q : Int) + 2) = (q : Int) + 2 := wrap_small _ (by omega) (by omega)
          go_quiet (fail)
          go_wp2
          go_meet
          exact ⟨congrArg Value.bool E0.out.symm, below_drewN (Below.refl _ _) _⟩
      · have e0 := rawEnd_far (n := nm) d1
        have j1 : decide ((q : Int) + 2 + (nm.length : Int) < (s.size : Int)) = false := decide_eq_false (by omega)
        have E0 := Lib.hid e0
        clear e0
        have o1 : (0 : Int) ≤ (q : Int) + 1 := by omega
        have o2 : (0 : Int) ≤ (q : Int) + 2 := by omega
        have o3 : (0 : Int) ≤ (q : Int) + 2 + (nm.length : Int) := by omega
        have p1 : ((q : Int) + 1).toNat = q + 1 := by omega
        have p2 : ((q : Int) + 2).toNat = q + 2 := by omega
        have p3 : ((q : Int) + 2 + (nm.length : Int)).toNat = q + 2 + nm.length := by omega
        have v1 : IntKind.i64.wrap ((q : Int) + 1) = (q : Int) + 1 := wrap_small _ (by omega) (by omega)
        have v2' : IntKind.i64.wrap ((q : Int) + 2) = (q : Int) + 2 := wrap_small _ (by omega) (by omega)
        go_quiet (fail)
        go_wp2
        go_meet
        exact ⟨congrArg Value.bool E0.out.symm, below_drewN (Below.refl _ _) _⟩
    case rest =>
      obtain ⟨hc, hb2⟩ := hcut
      cases he : U.rawEnd nm (s.data.toList.drop q) with
      | true =>
        rw [he] at hc
        subst hc
        have HX := Lib.hid (U.rawText_at nm (s.data.toList.drop p) (q - p) (by rw [List.length_drop, len_list]; omega) hall.out (.inr (by rw [List.drop_drop, show p + (q - p) = q by omega]; exact he)))
        clear he hall c0 m1
        go_wp2_with fail
        exact hK q _ _ _ _ _ _ _ _ _ _ _ _ _ _ _ _ _ _ _ _ _ _ _ _ _ _ _ _ _ _ _ _ _ _ _ _ _ _ _ _ _ _ _ _ _ _ _ _ _ _ _ _ _ _ _ _ _ _ _ _ _ _ _ _ _ _ _ hpq hqs (hb.trans (hb2.mono hb.size)) HX.out
      | false =>
        rw [he] at hc
        subst hc
        have HN : Hid (∀ i, i < q + 1 - p → U.rawEnd nm ((s.data.toList.drop p).drop i) = false) := by
          intro i hi
          by_cases e : i = q - p
          · rw [e, List.drop_drop, show p + (q - p) = q by omega]; exact he
          · exact hall.out i (by omega)
        clear he hall hK
        have hb3 := hb.trans (hb2.mono hb.size)
        have c2 := (hb2.cell (p := ⟨bs, 0, none⟩) (Array.getElem?_eq_some_iff.1 hS1).1).trans c0
        have i1 : (q : Int) + 1 ≤ (s.size : Int) := by omega
        clear c0 m1
        go_wp2_with fail
        exact ⟨⟨q + 1, by omega, by omega, by go_num, congrArg Value.string (raw_more hpq hq), hb3, HN⟩, by simp [intOf]; omega⟩
  · have hqe : q = s.size := by omega
    have HX := Lib.hid (U.rawText_at nm (s.data.toList.drop p) (q - p) (by rw [List.length_drop, len_list]; omega) hall.out (.inl (by rw [List.length_drop, len_list]; omega)))
    have hi1 : ¬ (q : Int) < (s.size : Int) := by omega
    clear hqe hall
    go_wp2_with fail
    exact hK q _ _ _ _ _ _ _ _ _ _ _ _ _ _ _ _ _ _ _ _ _ _ _ _ _ _ _ _ _ _ _ _ _ _ _ _ _ _ _ _ _ _ _ _ _ _ _ _ _ _ _ _ _ _ _ _ _ _ _ _ _ _ _ _ _ _ _ hpq hqs hb HX.out

end Go.Proofs.YtcdgiohogddbkaaGreatDoor
