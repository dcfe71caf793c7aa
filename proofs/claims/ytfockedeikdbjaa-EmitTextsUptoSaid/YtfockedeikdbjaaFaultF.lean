/- The reference's EmitFault: its loop. -/
import Derived.Test.YtfockedeikdbjaaRefAtts
import Derived.Test.YtfockedeikdbjaaFaultAt
import Derived.Deep.DeepCutAuto
import Derived.Handy
namespace Go.Proofs.Ytfockedeikdbjaa
open Go.RowKit

/-- the first loop's body in a function's text -/
def loopIn : Code → Option Code
  | .loop c => some c
  | .seq a b => (loopIn a).or (loopIn b)
  | .block _ c => loopIn c
  | .scope c => loopIn c
  | .cond _ a b => (loopIn a).or (loopIn b)
  | _ => none
noncomputable def faultBody : Code := ((Try.f7.body.bind loopIn).getD .skip)
/-- a token's block -/
def tkObj (t : U.Tk) (av : Value) : Obj := .cells #[.int .i64 t.kind, .string ⟨t.name.toArray⟩, av, .bool t.self, .string ⟨t.text.toArray⟩] 33 (0, 0)

set_option maxRecDepth 1000000 in
def FkI (l : List U.Tk) (ao : Option Addr) (cap R : Nat) (w : World) (a' : Act) (w' : World) : Prop :=
  ∃ u2 u3 u4 u5 u6 u12 u13 u14 u15 u16 u17 u18 u19 u20 u21 u22 u23 u24 u25 u26 u27 u28 u29 u30 u31 u32 u33 u34 u35 u36 u37 u38 u39 u40 u41 u42 u43 u44 u45 u46 u47 u48 u49 u50 u51 u52 u53 u54
  u55 u56 u57 u58 u59 u60 u61 u62 u63 u64 u65 u66 u67 u68 u69 u70 u71 u72 u73 u74 u75 u76 u77 u78 u79 u80 u81 u82 u83 u84 u85 u86 u87 u88 u89 u90 u91 u92 u93 u94 u95 u96 u97 u98 u99 u100
  u101 u102 u103 u104 u105 u106 u107 u108 u109 u110 u111 u112 u113 u114 u115 u116 u117 u118 u119 u120 u121 u122 u123 u124 u125 u126 u127 u128 u129 u130 u131 u132 u133 u134 u135 u136 u137
  u138 u139 u140 u141 u142 u143 u144 u145 u146 u147 u148 u149 u150 u151 u152 u153 u154 u155 u156 u157 u158 u159 : Value,
    (∃ k : Nat, k ≤ l.length ∧ u12 = .int .i64 k ∧ Below w.heap.size w w' ∧ Hid (U.faults (U.endB (l.take k)) (l.drop k) = R)) ∧
    a' = ⟨#[.slice ao l.length cap, undef, u2, u3, u4, u5, u6, .slice ao l.length cap, .int .i64 (l.length : Int), .bool (decide ((300 : Int) < (l.length : Int))), .slice ao l.length cap, .int
      .i64 (l.length : Int), u12, u13, u14, u15, u16, u17, u18, u19, u20, u21, u22, u23, u24, u25, u26, u27, u28, u29, u30, u31, u32, u33, u34, u35, u36, u37, u38, u39, u40, u41, u42, u43,
      u44, u45, u46, u47, u48, u49, u50, u51, u52, u53, u54, u55, u56, u57, u58, u59, u60, u61, u62, u63, u64, u65, u66, u67, u68, u69, u70, u71, u72, u73, u74, u75, u76, u77, u78, u79, u80,
      u81, u82, u83, u84, u85, u86, u87, u88, u89, u90, u91, u92, u93, u94, u95, u96, u97, u98, u99, u100, u101, u102, u103, u104, u105, u106, u107, u108, u109, u110, u111, u112, u113, u114,
      u115, u116, u117, u118, u119, u120, u121, u122, u123, u124, u125, u126, u127, u128, u129, u130, u131, u132, u133, u134, u135, u136, u137, u138, u139, u140, u141, u142, u143, u144,
      u145, u146, u147, u148, u149, u150, u151, u152, u153, u154, u155, u156, u157, u158, u159], []⟩
def fkMu (l : List U.Tk) (a' : Act) : Nat := l.length - (intOf (a'.tmps.getD 12 undef)).toNat

end Go.Proofs.Ytfockedeikdbjaa
